/- A symbolic run of Go code: new memory, and stores into our own. -/
import Derived.Test.YtcplbpnpcmgjfabYf
namespace Go.Proofs.Ytcplbpnpcmgjfab
open Go.RowKit
def upd (ρ : Ren) (i : Nat) (l : Loc) : Ren := fun j => if j = i then some l else ρ j
theorem upd_le {ρ : Ren} {i : Nat} {l : Loc} (h : ρ i = none) : RLe ρ (upd ρ i l) := fun j m e => by
  unfold upd
  rw [if_neg (fun hj => by subst hj; rw [h] at e; cases e)]
  exact e
theorem OC.mono {base : Nat} {ρ ρ' : Ren} {w : World} {i : Nat} {o : AObj} (hle : RLe ρ ρ') (h : OC base ρ w i o) : OC base ρ' w i o := by
  cases o with
  | cells T cs =>
    obtain ⟨b, us, h1, h2, h3, h4⟩ := h
    exact ⟨b, us, hle _ _ h1, h2, h3.mono hle, h4⟩
  | recs sh m f =>
    obtain ⟨l, h1, h2⟩ := h
    exact ⟨l, hle _ _ h1, h2⟩
  | gone => trivial
  | row e sh m c f =>
    obtain ⟨l, h1, h2⟩ := h
    exact ⟨l, hle _ _ h1, h2⟩
/-- A NEW BLOCK OF OURS. -/
theorem HC.new {base : Nat} {w0 w : World} {ρ : Ren} {H : List AObj} (h : HC base w0 ρ H w) {T : TypeId} {cs us : List Value} (hr : RL ρ cs us) :
    HC base w0 (upd ρ H.length (some (w.heap.size, 0, 0))) (H ++ [.cells T cs]) (w.alloc (.cells ⟨us⟩ T)) ∧ RLe ρ (upd ρ H.length (some (w.heap.size, 0, 0))) := by
  have hno : ρ H.length = none := by
    cases e : ρ H.length with
    | none => rfl
    | some l => exact absurd (h.dom _ _ e) (by omega)
  have hle := upd_le (l := some (w.heap.size, 0, 0)) hno
  have hb : Below w.heap.size w (w.alloc (.cells ⟨us⟩ T)) := (Below.refl _ _).alloc (Nat.le_refl _) _
  have hs : (w.alloc (.cells ⟨us⟩ T)).heap.size = w.heap.size + 1 := by show (w.heap.push _).size = _; simp
  have hnew : upd ρ H.length (some (w.heap.size, 0, 0)) H.length = some (some (w.heap.size, 0, 0)) := if_pos rfl
  have hold : ∀ i, i ≠ H.length → upd ρ H.length (some (w.heap.size, 0, 0)) i = ρ i := fun i hi => if_neg hi
  refine ⟨⟨h.below.trans (hb.mono h.floor), (by rw [hs]; have := h.floor; omega), ?_, ?_, ?_, ?_⟩, hle⟩
  · intro i o ho
    rw [List.getElem?_append] at ho
    split at ho
    · exact ((h.obj i o ho).below hb (fun b s z e => h.lt i b s z e)).mono hle
    · have hi : i = H.length := by
        rcases Nat.lt_or_ge H.length i with hlt | hge
        · rw [List.getElem?_eq_none (by simp; omega)] at ho; cases ho
        · omega
      subst hi
      simp at ho
      subst ho
      refine ⟨w.heap.size, us, hnew, h.floor, hr.mono hle, ?_⟩
      show (w.heap.push _)[w.heap.size]? = _
      simp
  · intro i l e
    by_cases hi : i = H.length
    · subst hi; simp
    · rw [hold i hi] at e; have := h.dom i l e; simp; omega
  · intro i b s z e
    rw [hs]
    by_cases hi : i = H.length
    · subst hi; rw [hnew] at e; cases e; omega
    · rw [hold i hi] at e; have := h.lt i b s z e; omega
  · intro i j o1 b s z c s' z' o hi ho1 hj hg e1 e2 hij hbc
    by_cases h1 : i = H.length
    · subst h1
      have h2 : j ≠ H.length := fun e => hij e.symm
      rw [hnew] at e1; cases e1
      rw [hold j h2] at e2
      have := h.lt j c s' z' e2
      omega
    · by_cases h2 : j = H.length
      · subst h2
        rw [hnew] at e2; cases e2
        rw [hold i h1] at e1
        have := h.lt i b s z e1
        omega
      · rw [hold i h1] at e1
        rw [hold j h2] at e2
        have li := h.dom i _ e1
        have lj := h.dom j _ e2
        rw [List.getElem?_append_left li] at hi
        rw [List.getElem?_append_left lj] at hj
        exact h.apart i j o1 b s z c s' z' o hi ho1 hj hg e1 e2 hij hbc
/-- The world has turned at one block alone. -/
structure Onl (b : Nat) (w w' : World) : Prop where
  os : w'.os = w.os
  tape : w'.tape = w.tape
  output : w'.output = w.output
  size : w'.heap.size = w.heap.size
  block : ∀ k, k ≠ b → w'.heap[k]? = w.heap[k]?
theorem Onl.refl (b : Nat) (w : World) : Onl b w w := ⟨rfl, rfl, rfl, rfl, fun _ _ => rfl⟩
theorem Onl.trans {b : Nat} {u v w : World} (h : Onl b u v) (k : Onl b v w) : Onl b u w := ⟨k.os.trans h.os, k.tape.trans h.tape, k.output.trans h.output, k.size.trans h.size, fun i hi => (k.block i hi).trans (h.block i hi)⟩
theorem Onl.below {b base : Nat} {w w' : World} (h : Onl b w w') (hb : base ≤ b) : Below base w w' := ⟨h.os, h.tape, h.output, Nat.le_of_eq h.size.symm, fun k hk => h.block k (by omega)⟩
/-- OUR BLOCK HAS OTHER CELLS. -/
theorem HC.set {base : Nat} {w0 w w' : World} {ρ : Ren} {H : List AObj} (h : HC base w0 ρ H w) {i b T : Nat} {cs cs' us' : List Value} (hi : H[i]? = some (.cells T cs)) (hm : ρ i = some (some (b, 0, 0))) (hr : RL ρ cs' us')
    (ho : Onl b w w') (hn : w'.heap[b]? = some (.cells ⟨us'⟩ T)) : HC base w0 ρ (H.set i (.cells T cs')) w' := by
  have hlt := h.dom i _ hm
  have hb : base ≤ b := by
    obtain ⟨b', us, h1, h2, _⟩ := h.obj i _ hi
    rw [hm] at h1; cases h1
    exact h2
  have old : ∀ j o, i ≠ j → (H.set i (.cells T cs'))[j]? = some o → H[j]? = some o := fun j o hij ho => by
    rw [List.getElem?_set_ne hij] at ho; exact ho
  refine ⟨h.below.trans (ho.below hb), by rw [ho.size]; exact h.floor, ?_, ?_, ?_, ?_⟩
  · intro j o hj
    by_cases hij : i = j
    · subst hij
      rw [List.getElem?_set_self hlt] at hj
      cases hj
      exact ⟨b, us', hm, hb, hr, hn⟩
    · have hj' := old j o hij hj
      cases o with
      | gone => trivial
      | cells T' ds =>
        obtain ⟨c, vs, h1, h2, h3, h4⟩ := h.obj j _ hj'
        have hne := h.apart i j _ b 0 0 c 0 0 _ hi rfl hj' (fun e => by cases e) hm h1 hij
        exact ⟨c, vs, h1, h2, h3, (ho.block c (Ne.symm hne)).trans h4⟩
      | recs sh n f =>
        obtain ⟨l, h1, h0, h2⟩ := h.obj j _ hj'
        refine ⟨l, h1, h0, ?_⟩
        rcases h2 with h2 | ⟨c, s, rfl, h2⟩
        · exact .inl h2
        · have hne := h.apart i j _ b 0 0 c s _ _ hi rfl hj' (fun e => by cases e) hm h1 hij
          refine .inr ⟨c, s, rfl, fun m hm => ?_⟩
          have e := h2 m hm
          intro q u hu
          rw [← e q u hu]
          exact World.cell?_of_block (w := w) (ho.block c (Ne.symm hne))
      | row e sh n c f =>
        obtain ⟨l, h1, h0, h2⟩ := h.obj j _ hj'
        refine ⟨l, h1, h0, ownsRow_kept h2 fun d hd => ?_⟩
        obtain ⟨s, z, rfl⟩ := rowV_block hd
        have hne := h.apart i j _ b 0 0 d s z _ hi rfl hj' (fun e => by cases e) hm h1 hij
        exact ho.block d (Ne.symm hne)
  · intro j l e; simp; exact h.dom j l e
  · intro j c s z e; rw [ho.size]; exact h.lt j c s z e
  · intro j1 j2 o1 c s z c' s' z' o h1 ho1 h2 hg e1 e2 hne
    by_cases hi1 : i = j1
    · subst hi1
      by_cases hi2 : i = j2
      · exact absurd hi2 hne
      · exact h.apart i j2 _ c s z c' s' z' o hi rfl (old j2 o hi2 h2) hg e1 e2 hne
    · have h1' := old j1 _ hi1 h1
      by_cases hi2 : i = j2
      · subst hi2
        exact h.apart j1 i o1 c s z c' s' z' _ h1' ho1 hi (fun e => by cases e) e1 e2 hne
      · exact h.apart j1 j2 o1 c s z c' s' z' o h1' ho1 (old j2 o hi2 h2) hg e1 e2 hne
/-- one cell alone -/
def scal : Value → Bool
  | .agg _ => false
  | .tuple _ => false
  | _ => true
theorem Rn.scal {ρ : Ren} {v u : Value} (h : Rn ρ v u) (hs : scal v = true) : Go.Proofs.Ytcplbpnpcmgjfab.scal u = true := by
  cases h <;> first | rfl | cases hs
theorem run_storeCells (P : Program) (b o : Nat) (T : TypeId) : ∀ (vs us : List Value) (i : Nat) (w : World), (∀ v ∈ vs, scal v = true) → w.heap[b]? = some (.cells ⟨us⟩ T) → o + i + vs.length ≤ us.length →
    ∃ w', (storeCells ⟨b, o, none⟩ vs i).run P w = .ok () w' ∧ Onl b w w' ∧ w'.heap[b]? = some (.cells ⟨putAt us (o + i) vs⟩ T)
  | [], us, i, w, _, hb, _ => ⟨w, rfl, Onl.refl b w, hb⟩
  | v :: vs, us, i, w, hs, hb, hl => by
    have hbs : b < w.heap.size := (Array.getElem?_eq_some_iff.1 hb).1
    simp only [List.length_cons] at hl
    have hw1 : (w.setCell ⟨b, o + i, none⟩ v).heap[b]? = some (.cells ⟨us.set (o + i) v⟩ T) := by
      simp [World.setCell, Array.getElem?_modify, hb]
    have ho : Onl b w (w.setCell ⟨b, o + i, none⟩ v) := ⟨rfl, rfl, rfl, by simp [World.setCell], fun k hk => Below.heap_setCell _ _ _ _ hk⟩
    obtain ⟨w', h1, h2, h3⟩ := run_storeCells P b o T vs (us.set (o + i) v) (i + 1) _ (fun x hx => hs x (List.mem_cons_of_mem _ hx)) hw1 (by simp; omega)
    refine ⟨w', ?_, ho.trans h2, ?_⟩
    · unfold storeCells
      rw [Sem.run_bind]
      have hcell : w.cell? ⟨b, o + i, none⟩ = some us[o + i] := by
        have : o + i < us.length := by omega
        simp [World.cell?, hb, this]
      have hfr : w.frozen? ⟨b, o + i, none⟩ = false := by simp [World.frozen?, hb]
      have hrun : (store ⟨b, o + i, none⟩ v).run P w = .ok () (w.setCell ⟨b, o + i, none⟩ v) := by
        have hv := hs v (List.mem_cons_self ..)
        unfold store
        generalize hq : w.setCell ⟨b, o + i, none⟩ v = w1
        cases v <;> first | (exact Bool.noConfusion hv) | (unfold Sem.run; rw [hcell]; simp only [hfr, hq]; rfl)
      rw [addr_add, hrun]
      exact h1
    · rw [h3]
      simp only [putAt, setL_eq]
      rw [show o + (i + 1) = o + i + 1 by omega]
end Go.Proofs.Ytcplbpnpcmgjfab
