/- A symbolic run of Go code: memory turns: new objects, others in their place. -/
import Derived.Test.YtpkckgdpdnkbeaaZf
namespace Go.Proofs.Ytpkckgdpdnkbeaa
open Go.RowKit
def goneL : Nat → List AObj
  | 0 => []
  | n + 1 => .gone :: goneL n
def upd (ρ : Ren) (i : Nat) (l : Loc) : Ren := fun j => if j = i then some l else ρ j
theorem upd_le {ρ : Ren} {i : Nat} {l : Loc} (h : ρ i = none) : RLe ρ (upd ρ i l) := fun j m e => by
  unfold upd
  rw [if_neg (fun hj => by subst hj; rw [h] at e; cases e)]
  exact e
/-- The world has turned at one block alone. -/
structure Onl (b : Nat) (w w' : World) : Prop where
  os : w'.os = w.os
  tape : w'.tape = w.tape
  output : w'.output = w.output
  size : w'.heap.size = w.heap.size
  block : ∀ k, k ≠ b → w'.heap[k]? = w.heap[k]?
theorem Onl.refl (b : Nat) (w : World) : Onl b w w := ⟨rfl, rfl, rfl, rfl, fun _ _ => rfl⟩
theorem Onl.trans {b : Nat} {u v w : World} (h : Onl b u v) (k : Onl b v w) : Onl b u w := ⟨k.os.trans h.os, k.tape.trans h.tape, k.output.trans h.output, k.size.trans h.size, fun i hi => (k.block i hi).trans (h.block i hi)⟩
theorem Onl.below {b base : Nat} {w w' : World} (h : Onl b w w') (hb : base ≤ b) : Below base w w' := ⟨h.os, h.tape, h.output, Nat.le_of_eq h.size.symm, fun k hk => h.block k (by omega)⟩
/-- A memory of which less is said. -/
theorem HC.mask {base : Nat} {w0 w : World} {ρ : Ren} {H T : List AObj} (h : HC base w0 ρ H w) (hl : T.length = H.length) (hm : ∀ (i : Nat) o, T[i]? = some o → o = .gone ∨ H[i]? = some o) : HC base w0 ρ T w := by
  refine ⟨h.below, h.floor, fun i o ho => ?_, fun i l e => by rw [hl]; exact h.dom i l e, h.lt, fun i j o1 b s z c s' z' o h1 ho1 h2 hg e1 e2 hne => ?_⟩
  · rcases hm i o ho with rfl | h1
    · trivial
    · exact h.obj i o h1
  · rcases hm i _ h1 with e | h1
    · subst e; cases ho1
    · rcases hm j _ h2 with e | h2
      · exact (hg e).elim
      · exact h.apart i j o1 b s z c s' z' o h1 ho1 h2 hg e1 e2 hne
/-- A NEW BLOCK OF OURS, at a place that is laid for it. -/
theorem HC.newAt {base : Nat} {w0 w : World} {ρ : Ren} {H : List AObj} (h : HC base w0 ρ H w) {T id : Nat} {cs us : List Value} (hr : RL ρ cs us) (hid : id < H.length) (hno : ρ id = none) :
    HC base w0 (upd ρ id (some (w.heap.size, 0, 0, 0))) (H.set id (.cells T cs)) (w.alloc (.cells ⟨us⟩ T)) ∧ RLe ρ (upd ρ id (some (w.heap.size, 0, 0, 0))) := by
  have hle := upd_le (l := some (w.heap.size, 0, 0, 0)) hno
  have hb : Below w.heap.size w (w.alloc (.cells ⟨us⟩ T)) := (Below.refl _ _).alloc (Nat.le_refl _) _
  have hs : (w.alloc (.cells ⟨us⟩ T)).heap.size = w.heap.size + 1 := by show (w.heap.push _).size = _; simp
  have hnew : upd ρ id (some (w.heap.size, 0, 0, 0)) id = some (some (w.heap.size, 0, 0, 0)) := if_pos rfl
  have hold : ∀ i, i ≠ id → upd ρ id (some (w.heap.size, 0, 0, 0)) i = ρ i := fun i hi => if_neg hi
  have hget : ∀ i o, i ≠ id → (H.set id (.cells T cs))[i]? = some o → H[i]? = some o := fun i o hi e => by rw [List.getElem?_set_ne (Ne.symm hi)] at e; exact e
  refine ⟨⟨h.below.trans (hb.mono h.floor), (by rw [hs]; have := h.floor; omega), ?_, ?_, ?_, ?_⟩, hle⟩
  · intro i o ho
    by_cases hi : i = id
    · subst hi
      rw [List.getElem?_set_self hid] at ho
      cases ho
      refine ⟨w.heap.size, us, hnew, h.floor, hr.mono hle, ?_⟩
      show (w.heap.push _)[w.heap.size]? = _
      simp
    · exact ((h.obj i o (hget i o hi ho)).below hb (fun b s z e => h.lt i b s z e)).mono hle
  · intro i l e
    rw [List.length_set]
    by_cases hi : i = id
    · subst hi; exact hid
    · rw [hold i hi] at e; exact h.dom i l e
  · intro i b s z e
    rw [hs]
    by_cases hi : i = id
    · subst hi; rw [hnew] at e; cases e; omega
    · rw [hold i hi] at e; have := h.lt i b s z e; omega
  · intro i j o1 b s z c s' z' o hi ho1 hj hg e1 e2 hij hbc
    by_cases h1 : i = id
    · subst h1
      have h2 : j ≠ i := fun e => hij e.symm
      rw [hnew] at e1; cases e1
      rw [hold j h2] at e2
      have := h.lt j c s' z' e2
      omega
    · by_cases h2 : j = id
      · subst h2
        rw [hnew] at e2; cases e2
        rw [hold i h1] at e1
        have := h.lt i b s z e1
        omega
      · rw [hold i h1] at e1
        rw [hold j h2] at e2
        exact h.apart i j o1 b s z c s' z' o (hget i _ h1 hi) ho1 (hget j _ h2 hj) hg e1 e2 hij hbc
/-- A NEW MAP. -/
theorem HC.newMap {base : Nat} {w0 w : World} {ρ : Ren} {H : List AObj} (h : HC base w0 ρ H w) {id : Nat} (hid : id < H.length) (hno : ρ id = none) :
    HC base w0 (upd ρ id (some (w.heap.size, 0, 0, 0))) (H.set id (.mp [] 0)) (w.alloc (.map #[] 0)) ∧ RLe ρ (upd ρ id (some (w.heap.size, 0, 0, 0))) := by
  have hle := upd_le (l := some (w.heap.size, 0, 0, 0)) hno
  have hb : Below w.heap.size w (w.alloc (.map #[] 0)) := (Below.refl _ _).alloc (Nat.le_refl _) _
  have hs : (w.alloc (.map #[] 0)).heap.size = w.heap.size + 1 := by show (w.heap.push _).size = _; simp
  have hnew : upd ρ id (some (w.heap.size, 0, 0, 0)) id = some (some (w.heap.size, 0, 0, 0)) := if_pos rfl
  have hold : ∀ i, i ≠ id → upd ρ id (some (w.heap.size, 0, 0, 0)) i = ρ i := fun i hi => if_neg hi
  have hget : ∀ i o, i ≠ id → (H.set id (.mp [] 0))[i]? = some o → H[i]? = some o := fun i o hi e => by rw [List.getElem?_set_ne (Ne.symm hi)] at e; exact e
  refine ⟨⟨h.below.trans (hb.mono h.floor), (by rw [hs]; have := h.floor; omega), ?_, ?_, ?_, ?_⟩, hle⟩
  · intro i o ho
    by_cases hi : i = id
    · subst hi
      rw [List.getElem?_set_self hid] at ho
      cases ho
      refine ⟨w.heap.size, hnew, h.floor, rfl, ?_⟩
      show (w.heap.push _)[w.heap.size]? = _
      simp
    · exact ((h.obj i o (hget i o hi ho)).below hb (fun b s z e => h.lt i b s z e)).mono hle
  · intro i l e
    rw [List.length_set]
    by_cases hi : i = id
    · subst hi; exact hid
    · rw [hold i hi] at e; exact h.dom i l e
  · intro i b s z e
    rw [hs]
    by_cases hi : i = id
    · subst hi; rw [hnew] at e; cases e; omega
    · rw [hold i hi] at e; have := h.lt i b s z e; omega
  · intro i j o1 b s z c s' z' o hi ho1 hj hg e1 e2 hij hbc
    by_cases h1 : i = id
    · subst h1
      have h2 : j ≠ i := fun e => hij e.symm
      rw [hnew] at e1; cases e1
      rw [hold j h2] at e2
      have := h.lt j c s' z' e2
      omega
    · by_cases h2 : j = id
      · subst h2
        rw [hnew] at e2; cases e2
        rw [hold i h1] at e1
        have := h.lt i b s z e1
        omega
      · rw [hold i h1] at e1
        rw [hold j h2] at e2
        exact h.apart i j o1 b s z c s' z' o (hget i _ h1 hi) ho1 (hget j _ h2 hj) hg e1 e2 hij hbc
/-- AN OBJECT OF OURS IS ANOTHER ONE. -/
theorem HC.setO {base : Nat} {w0 w w' : World} {ρ : Ren} {H : List AObj} (h : HC base w0 ρ H w) {i b s : Nat} {z : Nat × Nat} {o o' : AObj} (hi : H[i]? = some o) (hown : o.own = true) (hm : ρ i = some (some (b, s, z))) (hb : base ≤ b)
    (hoc : OC base ρ w' i o') (ho : Onl b w w') : HC base w0 ρ (H.set i o') w' := by
  have hlt := h.dom i _ hm
  have old : ∀ j o, i ≠ j → (H.set i o')[j]? = some o → H[j]? = some o := fun j o hij ho => by
    rw [List.getElem?_set_ne hij] at ho; exact ho
  have hg0 : ∀ _ : o = .gone, False := fun e => by subst e; cases hown
  refine ⟨h.below.trans (ho.below hb), by rw [ho.size]; exact h.floor, ?_, ?_, ?_, ?_⟩
  · intro j x hj
    by_cases hij : i = j
    · subst hij
      rw [List.getElem?_set_self hlt] at hj
      cases hj
      exact hoc
    · have hj' := old j x hij hj
      by_cases hg : x = .gone
      · subst hg; trivial
      · exact (h.obj j x hj').kept fun c s' z' e => ho.block c (Ne.symm (h.apart i j o b s z c s' z' x hi hown hj' (fun e => hg e) hm e hij))
  · intro j l e; simp; exact h.dom j l e
  · intro j c s z e; rw [ho.size]; exact h.lt j c s z e
  · intro j1 j2 o1 c s1 z1 c' s' z' x h1 ho1 h2 hg e1 e2 hne
    by_cases hi1 : i = j1
    · subst hi1
      have hi2 : i ≠ j2 := hne
      exact h.apart i j2 o c s1 z1 c' s' z' x hi hown (old j2 x hi2 h2) hg e1 e2 hne
    · have h1' := old j1 _ hi1 h1
      by_cases hi2 : i = j2
      · subst hi2
        exact h.apart j1 i o1 c s1 z1 c' s' z' _ h1' ho1 hi hg0 e1 e2 hne
      · exact h.apart j1 j2 o1 c s1 z1 c' s' z' x h1' ho1 (old j2 x hi2 h2) hg e1 e2 hne
/-- so many places, from one on -/
def upds (ρ : Ren) (id : Nat) (ls : List Loc) : Ren := fun i => if id ≤ i then (match ls[i - id]? with | some l => some l | none => ρ i) else ρ i
theorem upds_at {ρ : Ren} {id j : Nat} {ls : List Loc} {l : Loc} (h : ls[j]? = some l) : upds ρ id ls (id + j) = some l := by
  unfold upds
  rw [if_pos (by omega), Nat.add_sub_cancel_left, h]
theorem upds_old {ρ : Ren} {id i : Nat} {ls : List Loc} (h : i < id ∨ id + ls.length ≤ i) : upds ρ id ls i = ρ i := by
  unfold upds
  rcases h with h | h
  · rw [if_neg (by omega)]
  · split
    · rw [List.getElem?_eq_none (by omega)]
    · rfl
theorem upds_inv {ρ : Ren} {id i : Nat} {ls : List Loc} {l : Loc} (h : upds ρ id ls i = some l) : (∃ j, i = id + j ∧ ls[j]? = some l) ∨ ((i < id ∨ id + ls.length ≤ i) ∧ ρ i = some l) := by
  by_cases h1 : i < id
  · rw [upds_old (.inl h1)] at h; exact .inr ⟨.inl h1, h⟩
  · by_cases h2 : id + ls.length ≤ i
    · rw [upds_old (.inr h2)] at h; exact .inr ⟨.inr h2, h⟩
    · have hj : ls[i - id]? = some (ls[i - id]'(by omega)) := List.getElem?_eq_getElem _
      have := upds_at (ρ := ρ) (id := id) hj
      rw [show id + (i - id) = i by omega, h] at this
      cases this
      exact .inl ⟨i - id, by omega, hj⟩
theorem upds_le {ρ : Ren} {id : Nat} {ls : List Loc} (h : ∀ j, j < ls.length → ρ (id + j) = none) : RLe ρ (upds ρ id ls) := fun i l e => by
  by_cases h1 : i < id ∨ id + ls.length ≤ i
  · rw [upds_old h1]; exact e
  · have := h (i - id) (by omega)
    rw [show id + (i - id) = i by omega, e] at this
    cases this
def setsAt (H : List AObj) (id : Nat) : List AObj → List AObj
  | [] => H
  | o :: l => setsAt (H.set id o) (id + 1) l
theorem setsAt_len : ∀ (os H : List AObj) (id : Nat), (setsAt H id os).length = H.length
  | [], _, _ => rfl
  | o :: l, H, id => by rw [setsAt, setsAt_len l]; simp
theorem setsAt_old : ∀ (os H : List AObj) (id i : Nat), (i < id ∨ id + os.length ≤ i) → (setsAt H id os)[i]? = H[i]?
  | [], _, _, _, _ => rfl
  | o :: l, H, id, i, h => by
    rw [setsAt, setsAt_old l _ _ _ (by simp at h; omega), List.getElem?_set_ne (by simp at h; omega)]
theorem setsAt_at : ∀ (os H : List AObj) (id j : Nat), id + os.length ≤ H.length → j < os.length → (setsAt H id os)[id + j]? = os[j]?
  | [], _, _, _, _, h => by simp at h
  | o :: l, H, id, 0, hl, _ => by
    rw [setsAt, setsAt_old l _ _ _ (.inl (by omega))]
    have : id < H.length := by simp at hl; omega
    simp [this]
  | o :: l, H, id, j + 1, hl, h => by
    rw [setsAt, show id + (j + 1) = id + 1 + j by omega, setsAt_at l _ _ _ (by simp at hl ⊢; omega) (by simpa using h)]
    simp
theorem OC.move {base base' : Nat} {ρ ρ' : Ren} {w : World} {i i' : Nat} {o : AObj} (h : OC base ρ w i o) (hf : flatO o = true) (hb : base' ≤ base) (hm : ∀ l, ρ i = some l → ρ' i' = some l) : OC base' ρ' w i' o := by
  cases o with
  | cells T cs => cases hf
  | recs sh m f =>
    obtain ⟨l, h1, h2⟩ := h
    exact ⟨l, hm _ h1, h2⟩
  | gone => trivial
  | row e sh m f =>
    obtain ⟨l, h1, h0, h2⟩ := h
    refine ⟨l, hm _ h1, h0, h2.1, ?_⟩
    rcases h2.2 with h3 | ⟨g, cap, cur, e1, e2, rest⟩
    · exact .inl h3
    · exact .inr ⟨g, cap, cur, e1, Nat.le_trans hb e2, rest⟩
  | mp es clock =>
    obtain ⟨b, h1, h2, h3⟩ := h
    exact ⟨b, hm _ h1, Nat.le_trans hb h2, h3⟩
/-- NEW OBJECTS, at places that are laid for them. -/
theorem HC.join {base : Nat} {w0 w w' : World} {ρ : Ren} {H : List AObj} (h : HC base w0 ρ H w) {id : Nat} {ls : List Loc} {os : List AObj} (hf : allO flatO os = true) (hn : HC w.heap.size w (fun i => ls[i]?) os w') (hge : ∀ (j : Nat) b s z, ls[j]? = some (some (b, s, z)) → w.heap.size ≤ b) (hid : id + os.length ≤ H.length) (hno : ∀ j, j < os.length → ρ (id + j) = none) :
    HC base w0 (upds ρ id ls) (setsAt H id os) w' ∧ RLe ρ (upds ρ id ls) := by
  have hll : ls.length ≤ os.length := by
    rcases Nat.lt_or_ge os.length ls.length with hlt | hge
    · have := hn.dom (ls.length - 1) _ (List.getElem?_eq_getElem (by omega))
      omega
    · exact hge
  have hle : RLe ρ (upds ρ id ls) := upds_le fun j hj => hno j (by omega)
  have get : ∀ (i : Nat) o, (setsAt H id os)[i]? = some o → (∃ j, i = id + j ∧ j < os.length ∧ os[j]? = some o) ∨ ((i < id ∨ id + os.length ≤ i) ∧ H[i]? = some o) := fun i o ho => by
    by_cases h1 : i < id ∨ id + os.length ≤ i
    · rw [setsAt_old _ _ _ _ h1] at ho; exact .inr ⟨h1, ho⟩
    · have := setsAt_at os H id (i - id) hid (by omega)
      rw [show id + (i - id) = i by omega, ho] at this
      exact .inl ⟨i - id, by omega, by omega, this.symm⟩
  have uold : ∀ i, (i < id ∨ id + os.length ≤ i) → upds ρ id ls i = ρ i := fun i hi => upds_old (by omega)
  have unew : ∀ j l, j < os.length → upds ρ id ls (id + j) = some l → ls[j]? = some l := fun j l hj e => by
    rcases upds_inv e with ⟨j', e1, e2⟩ | ⟨_, e2⟩
    · have : j = j' := by omega
      subst this
      exact e2
    · rw [hno j hj] at e2; cases e2
  refine ⟨⟨h.below.trans (hn.below.mono h.floor), Nat.le_trans h.floor hn.below.size, ?_, ?_, ?_, ?_⟩, hle⟩
  · intro i o ho
    rcases get i o ho with ⟨j, rfl, hj, ho⟩ | ⟨hi, ho⟩
    · exact (hn.obj j o ho).move (allO_at hf j o ho) h.floor fun l e => upds_at e
    · exact ((h.obj i o ho).below hn.below fun b s z e => h.lt i b s z e).mono hle
  · intro i l e
    rw [setsAt_len]
    rcases upds_inv e with ⟨j, rfl, e2⟩ | ⟨_, e2⟩
    · have := hn.dom j l e2; omega
    · exact h.dom i l e2
  · intro i b s z e
    rcases upds_inv e with ⟨j, rfl, e2⟩ | ⟨_, e2⟩
    · exact hn.lt j b s z e2
    · exact Nat.lt_of_lt_of_le (h.lt i b s z e2) hn.below.size
  · intro i1 i2 o1 b s z c s' z' o h1 ho1 h2 hg e1 e2 hne hbc
    subst hbc
    rcases get i1 o1 h1 with ⟨j1, rfl, hj1, h1⟩ | ⟨hi1, h1⟩
    · have l1 := unew _ _ hj1 e1
      rcases get i2 o h2 with ⟨j2, rfl, hj2, h2⟩ | ⟨hi2, h2⟩
      · have l2 := unew _ _ hj2 e2
        exact hn.apart j1 j2 o1 b s z b s' z' o h1 ho1 h2 hg l1 l2 (by omega) rfl
      · rw [uold _ hi2] at e2
        have := h.lt i2 b s' z' e2
        have := hge j1 b s z l1
        omega
    · rw [uold _ hi1] at e1
      rcases get i2 o h2 with ⟨j2, rfl, hj2, h2⟩ | ⟨hi2, h2⟩
      · have l2 := unew _ _ hj2 e2
        have := h.lt i1 b s z e1
        have := hge j2 b s' z' l2
        omega
      · rw [uold _ hi2] at e2
        exact h.apart i1 i2 o1 b s z b s' z' o h1 ho1 h2 hg e1 e2 hne rfl
theorem goneL_len : ∀ n, (goneL n).length = n
  | 0 => rfl
  | n + 1 => by simp [goneL, goneL_len n]
theorem goneL_at : ∀ (n i : Nat) (o : AObj), (goneL n)[i]? = some o → o = .gone
  | 0, i, o, h => by simp [goneL] at h
  | n + 1, 0, o, h => by simp [goneL] at h; exact h.symm
  | n + 1, i + 1, o, h => goneL_at n i o (by simpa [goneL] using h)
theorem HC.gones {base : Nat} {w0 w : World} {ρ : Ren} {H : List AObj} (h : HC base w0 ρ H w) (n : Nat) : HC base w0 ρ (H ++ goneL n) w := by
  have hat : ∀ (i : Nat) o, (H ++ goneL n)[i]? = some o → (∀ _ : o = .gone, False) → H[i]? = some o := fun i o e hg => by
    rw [List.getElem?_append] at e
    split at e
    · exact e
    · exact (hg (goneL_at _ _ _ e)).elim
  refine ⟨h.below, h.floor, fun i o ho => ?_, fun i l e => by have := h.dom i l e; simp; omega, h.lt, fun i j o1 b s z c s' z' o h1 ho1 h2 hg => h.apart i j o1 b s z c s' z' o (hat i _ h1 (fun e => by subst e; cases ho1)) ho1 (hat j _ h2 hg) hg⟩
  by_cases hg : o = .gone
  · subst hg; trivial
  · exact h.obj i o (hat i o ho hg)
/-- one cell alone -/
def scal : Value → Bool
  | .agg _ => false
  | .tuple _ => false
  | _ => true
theorem Rn.scal {ρ : Ren} {v u : Value} (h : Rn ρ v u) (hs : scal v = true) : Go.Proofs.Ytpkckgdpdnkbeaa.scal u = true := by
  cases h <;> first | rfl | cases hs
theorem run_storeCells (P : Program) (b o : Nat) (T : TypeId) : ∀ (vs us : List Value) (i : Nat) (w : World), (∀ v ∈ vs, scal v = true) → w.heap[b]? = some (.cells ⟨us⟩ T) → o + i + vs.length ≤ us.length →
    ∃ w', (storeCells ⟨b, o, none⟩ vs i).run P w = .ok () w' ∧ Onl b w w' ∧ w'.heap[b]? = some (.cells ⟨putAt us (o + i) vs⟩ T)
  | [], us, i, w, _, hb, _ => ⟨w, rfl, Onl.refl b w, hb⟩
  | v :: vs, us, i, w, hs, hb, hl => by
    have hbs : b < w.heap.size := (Array.getElem?_eq_some_iff.1 hb).1
    simp only [List.length_cons] at hl
    have hw1 : (w.setCell ⟨b, o + i, none⟩ v).heap[b]? = some (.cells ⟨us.set (o + i) v⟩ T) := by
      simp [World.setCell, Array.getElem?_modify, hb]
    have ho : Onl b w (w.setCell ⟨b, o + i, none⟩ v) := ⟨rfl, rfl, rfl, by simp [World.setCell], fun k hk => Below.heap_setCell _ _ _ _ hk⟩
    obtain ⟨w', h1, h2, h3⟩ := run_storeCells P b o T vs (us.set (o + i) v) (i + 1) _ (fun x hx => hs x (List.mem_cons_of_mem _ hx)) hw1 (by simp; omega)
    refine ⟨w', ?_, ho.trans h2, ?_⟩
    · unfold storeCells
      rw [Sem.run_bind]
      have hcell : w.cell? ⟨b, o + i, none⟩ = some us[o + i] := by
        have : o + i < us.length := by omega
        simp [World.cell?, hb, this]
      have hfr : w.frozen? ⟨b, o + i, none⟩ = false := by simp [World.frozen?, hb]
      have hrun : (store ⟨b, o + i, none⟩ v).run P w = .ok () (w.setCell ⟨b, o + i, none⟩ v) := by
        have hv := hs v (List.mem_cons_self ..)
        unfold store
        generalize hq : w.setCell ⟨b, o + i, none⟩ v = w1
        cases v <;> first | (exact Bool.noConfusion hv) | (unfold Sem.run; rw [hcell]; simp only [hfr, hq]; rfl)
      rw [addr_add, hrun]
      exact h1
    · rw [h3]
      simp only [putAt, setL_eq]
      rw [show o + (i + 1) = o + i + 1 by omega]
end Go.Proofs.Ytpkckgdpdnkbeaa
