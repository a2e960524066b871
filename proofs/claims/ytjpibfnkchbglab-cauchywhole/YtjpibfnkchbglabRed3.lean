/- How matrix.reduce turns a matrix, told by functions; and where it lies meanwhile. -/
import Derived.Test.YtjpibfnkchbglabRed2
namespace Go.Proofs.Ytjpibfnkchbglab
open Go.ChangeShapes Go.WideShapes Go.ChangeAt Go.RowKit Go.Shelf
/-- places r and i change -/
def swp {α : Type} (r i : Nat) (A : Nat → α) : Nat → α := fun x => if x = r then A i else if x = i then A r else A x
/-- row r divided by what it has in column k -/
def led (r k : Nat) (A : Nat → Nat → Nat) : Nat → Nat → Nat := fun x => if x = r then fun j => Gf.gm (A r j) (Gf.inv (A r k)) else A x
/-- of the first t rows, but row r, each less row r times what it has in column k -/
def elN (r k t : Nat) (A : Nat → Nat → Nat) : Nat → Nat → Nat := fun x => if x ≠ r ∧ x < t then fun j => A x j ^^^ Gf.gm (A r j) (A x k) else A x
/-- the first row from i on, of f rows, with something in column k -/
def fnd (A : Nat → Nat → Nat) (k : Nat) : Nat → Nat → Option Nat
  | 0, _ => none
  | f + 1, i => if A i k ≠ 0 then some i else fnd A k f (i + 1)
/-- one column -/
def rstep (n k : Nat) (s : Nat × (Nat → Nat → Nat)) : Nat × (Nat → Nat → Nat) :=
  match fnd s.2 k (n - s.1) s.1 with
  | none => s
  | some i => (s.1 + 1, elN s.1 k n (led s.1 k (swp s.1 i s.2)))
/-- the first k columns -/
def red (n : Nat) (A : Nat → Nat → Nat) : Nat → Nat × (Nat → Nat → Nat)
  | 0 => (0, A)
  | k + 1 => rstep n k (red n A k)
theorem fnd_none {A : Nat → Nat → Nat} {k : Nat} : ∀ {f i : Nat}, (∀ j, j < f → A (i + j) k = 0) → fnd A k f i = none
  | 0, _, _ => rfl
  | f + 1, i, h => by
    rw [fnd, if_neg (by have := h 0 (by omega); simpa using this)]
    exact fnd_none fun j hj => by have := h (j + 1) (by omega); rw [← this]; congr 1; omega
theorem fnd_some {A : Nat → Nat → Nat} {k : Nat} : ∀ {f i j : Nat}, j < f → A (i + j) k ≠ 0 → (∀ j', j' < j → A (i + j') k = 0) → fnd A k f i = some (i + j)
  | 0, _, _, h, _, _ => by omega
  | f + 1, i, 0, _, h, _ => by rw [fnd, if_pos (by simpa using h)]; rfl
  | f + 1, i, j + 1, hj, h, h0 => by
    rw [fnd, if_neg (by have := h0 0 (by omega); simpa using this)]
    have := fnd_some (A := A) (k := k) (f := f) (i := i + 1) (j := j) (by omega) (by rw [show i + 1 + j = i + (j + 1) by omega]; exact h) (fun j' hj' => by have := h0 (j' + 1) (by omega); rw [← this]; congr 1; omega)
    rw [this]
    congr 1
    omega
theorem fnd_lt {A : Nat → Nat → Nat} {k : Nat} : ∀ {f i x : Nat}, fnd A k f i = some x → i ≤ x ∧ x < i + f ∧ A x k ≠ 0
  | 0, _, _, h => by cases h
  | f + 1, i, x, h => by
    rw [fnd] at h
    by_cases c : A i k ≠ 0
    · rw [if_pos c] at h
      cases h
      exact ⟨Nat.le_refl _, by omega, c⟩
    · rw [if_neg c] at h
      obtain ⟨h1, h2, h3⟩ := fnd_lt h
      exact ⟨by omega, by omega, h3⟩
/-- all bytes -/
def Bm (n c : Nat) (A : Nat → Nat → Nat) : Prop := ∀ i j, i < n → j < c → A i j < 256
theorem Bm.swp {n c r i : Nat} {A : Nat → Nat → Nat} (h : Bm n c A) (hr : r < n) (hi : i < n) : Bm n c (swp r i A) := by
  intro x j hx hj
  unfold Ytjpibfnkchbglab.swp
  split
  · exact h i j hi hj
  · split
    · exact h r j hr hj
    · exact h x j hx hj
theorem Bm.led {n c r k : Nat} {A : Nat → Nat → Nat} (h : Bm n c A) (hr : r < n) : Bm n c (led r k A) := by
  intro x j hx hj
  unfold Ytjpibfnkchbglab.led
  split
  · exact Gf.gm_lt (h r j hr hj)
  · exact h x j hx hj
theorem Bm.elN {n c r k t : Nat} {A : Nat → Nat → Nat} (h : Bm n c A) (hr : r < n) : Bm n c (elN r k t A) := by
  intro x j hx hj
  unfold Ytjpibfnkchbglab.elN
  split
  · exact Gf.xlt (h x j hx hj) (Gf.gm_lt (h r j hr hj))
  · exact h x j hx hj
theorem red_ok {n c : Nat} {A : Nat → Nat → Nat} (h : Bm n c A) : ∀ k, (red n A k).1 ≤ n ∧ Bm n c (red n A k).2
  | 0 => ⟨Nat.zero_le _, h⟩
  | k + 1 => by
    obtain ⟨h1, h2⟩ := red_ok h k
    show (rstep n k (red n A k)).1 ≤ n ∧ Bm n c (rstep n k (red n A k)).2
    unfold rstep
    cases hf : fnd (red n A k).2 k (n - (red n A k).1) (red n A k).1 with
    | none => exact ⟨h1, h2⟩
    | some i =>
      obtain ⟨f1, f2, f3⟩ := fnd_lt hf
      exact ⟨by dsimp only; omega, ((h2.swp (by omega) (by omega)).led (by omega)).elN (by omega)⟩
/-- nothing of old has turned but the blocks of one matrix -/
structure Kp (g n : Nat) (ρ : Nat → Nat) (W W' : World) : Prop where
  size : W.heap.size ≤ W'.heap.size
  block : ∀ b, b < W.heap.size → b ≠ g → (∀ i, i < n → b ≠ ρ i) → W'.heap[b]? = W.heap[b]?
theorem Kp.refl (g n : Nat) (ρ : Nat → Nat) (W : World) : Kp g n ρ W W := ⟨Nat.le_refl _, fun _ _ _ _ => rfl⟩
theorem Kp.trans {g n : Nat} {ρ : Nat → Nat} {A B C : World} (h : Kp g n ρ A B) (k : Kp g n ρ B C) : Kp g n ρ A C :=
  ⟨Nat.le_trans h.size k.size, fun b h1 h2 h3 => (k.block b (Nat.lt_of_lt_of_le h1 h.size) h2 h3).trans (h.block b h1 h2 h3)⟩
theorem Kp.below {g n : Nat} {ρ : Nat → Nat} {A B : World} (h : Below A.heap.size A B) : Kp g n ρ A B := ⟨h.size, fun b h1 _ _ => h.block b h1⟩
theorem Kp.chg {g n i : Nat} {ρ : Nat → Nat} {o : Obj} {A B : World} (h : Chg (ρ i) o A B) (hi : i < n) : Kp g n ρ A B := ⟨h.size, fun b h1 _ h3 => h.block b h1 (h3 i hi)⟩
theorem Kp.perm {g n : Nat} {ρ σ : Nat → Nat} {A B : World} (h : Kp g n σ A B) (hp : ∀ i, i < n → ∃ j, j < n ∧ σ i = ρ j) : Kp g n ρ A B :=
  ⟨h.size, fun b h1 h2 h3 => h.block b h1 h2 fun i hi => by obtain ⟨j, hj, e⟩ := hp i hi; rw [e]; exact h3 j hj⟩
theorem Kp.only {g n : Nat} {ρ : Nat → Nat} {o : Obj} {A B : World} (h : OnlyAt g o A B) : Kp g n ρ A B := ⟨by rw [h.size]; exact Nat.le_refl _, fun b _ h2 _ => h.block b h2⟩
theorem Kp.drew {g n : Nat} {ρ : Nat → Nat} {A B : World} (h : Kp g n ρ A B) : Kp g n ρ A B.drew := ⟨h.size, h.block⟩
theorem FS.chg {w W W' : World} {g n c : Nat} {ρ : Nat → Nat} {A : Nat → Nat → Nat} (h : FS w W g n c ρ n A) {i : Nat} (hi : i < n) {r : Nat → Nat} (hC : Chg (ρ i) (.cells (cellsB (rl c r)).toArray 5 (0, 0)) W W') : FS w W' g n c ρ n (fun x => if x = i then r else A x) := by
  have gb := h.gb
  have r1 := (h.row i hi).1
  refine ⟨⟨hC.os.trans h.bel.os, hC.tape.trans h.bel.tape, hC.output.trans h.bel.output, Nat.le_trans h.bel.size hC.size, fun k hk => ?_⟩, h.gb, ?_, ?_, h.inj⟩
  · rw [hC.block k (Nat.lt_of_lt_of_le hk h.bel.size) (by omega)]
    exact h.bel.block k hk
  · rw [hC.block g (heap_lt h.out) (by omega)]
    exact h.out
  · intro j hj
    obtain ⟨q1, q2⟩ := h.row j hj
    refine ⟨q1, ?_⟩
    by_cases e : j = i
    · subst e; rw [if_pos rfl]; exact hC.at_
    · rw [if_neg e, hC.block _ (heap_lt q2) (fun c => e (h.inj j i hj hi c))]
      exact q2
theorem oc_swp {ρ : Nat → Nat} {c n r i : Nat} (hr : r < n) (hi : i < n) : ((oc ρ c n n).toArray.setIfInBounds r (.slice (some ⟨ρ i, 0, none⟩) c c)).setIfInBounds i (.slice (some ⟨ρ r, 0, none⟩) c c) = (oc (swp r i ρ) c n n).toArray := by
  apply Array.ext_getElem?
  intro j
  rw [Array.getElem?_setIfInBounds, Array.getElem?_setIfInBounds, Array.size_setIfInBounds, List.getElem?_toArray, List.getElem?_toArray, List.size_toArray, oc_len]
  by_cases hj : j < n
  · rw [oc_get hj, oc_get hj, if_pos hj, if_pos hj]
    unfold swp
    by_cases e : i = j
    · subst e
      rw [if_pos rfl, if_pos hi]
      by_cases d : i = r
      · subst d; rw [if_pos rfl]
      · rw [if_neg d, if_pos rfl]
    · rw [if_neg e]
      by_cases d : r = j
      · subst d; rw [if_pos rfl, if_pos hr, if_pos rfl]
      · rw [if_neg d, if_neg (Ne.symm d), if_neg (Ne.symm e)]
  · rw [if_neg (by omega), if_neg (by omega), List.getElem?_eq_none (by rw [oc_len]; omega), List.getElem?_eq_none (by rw [oc_len]; omega)]
theorem FS.swap {w W : World} {g n c : Nat} {ρ : Nat → Nat} {A : Nat → Nat → Nat} (h : FS w W g n c ρ n A) {r i : Nat} (hr : r < n) (hi : i < n) :
    FS w ((W.setCell ⟨g, r, none⟩ (.slice (some ⟨ρ i, 0, none⟩) c c)).setCell ⟨g, i, none⟩ (.slice (some ⟨ρ r, 0, none⟩) c c)) g n c (swp r i ρ) n (swp r i A) ∧ OnlyAt g (.cells (oc (swp r i ρ) c n n).toArray 52 (0, 0)) W ((W.setCell ⟨g, r, none⟩ (.slice (some ⟨ρ i, 0, none⟩) c c)).setCell ⟨g, i, none⟩ (.slice (some ⟨ρ r, 0, none⟩) c c)) := by
  have hO := ((OnlyAt.refl h.out).set (i := r) (.slice (some ⟨ρ i, 0, none⟩) c c)).set (i := i) (.slice (some ⟨ρ r, 0, none⟩) c c)
  rw [oc_swp hr hi] at hO
  refine ⟨⟨h.bel.trans (hO.below h.gb), h.gb, hO.at_, ?_, ?_⟩, hO⟩
  · have key : ∀ j, j < n → g < ρ j ∧ ((W.setCell ⟨g, r, none⟩ (.slice (some ⟨ρ i, 0, none⟩) c c)).setCell ⟨g, i, none⟩ (.slice (some ⟨ρ r, 0, none⟩) c c)).heap[ρ j]? = some (.cells (cellsB (rl c (A j))).toArray 5 (0, 0)) := by
      intro j hj
      obtain ⟨q1, q2⟩ := h.row j hj
      exact ⟨q1, (hO.block _ (by omega)).trans q2⟩
    intro j hj
    unfold swp
    by_cases e : j = r
    · rw [if_pos e, if_pos e]; exact key i hi
    · rw [if_neg e, if_neg e]
      by_cases d : j = i
      · rw [if_pos d, if_pos d]; exact key r hr
      · rw [if_neg d, if_neg d]; exact key j hj
  · intro j j' hj hj' e
    unfold swp at e
    have I := h.inj
    by_cases a : j = r
    · by_cases b : j' = r
      · omega
      · rw [if_pos a, if_neg b] at e
        by_cases d : j' = i
        · rw [if_pos d] at e
          have := I i r hi hr e
          omega
        · rw [if_neg d] at e
          have := I i j' hi hj' e
          omega
    · rw [if_neg a] at e
      by_cases a' : j = i
      · rw [if_pos a'] at e
        by_cases b : j' = r
        · rw [if_pos b] at e
          have := I r i hr hi e
          omega
        · rw [if_neg b] at e
          by_cases d : j' = i
          · omega
          · rw [if_neg d] at e
            have := I r j' hr hj' e
            omega
      · rw [if_neg a'] at e
        by_cases b : j' = r
        · rw [if_pos b] at e
          have := I j i hj hi e
          omega
        · rw [if_neg b] at e
          by_cases d : j' = i
          · rw [if_pos d] at e
            have := I j r hj hr e
            omega
          · rw [if_neg d] at e
            exact I j j' hj hj' e
theorem swp_perm {ρ σ : Nat → Nat} {n r i : Nat} (hr : r < n) (hi : i < n) (h : ∀ j, j < n → ∃ k, k < n ∧ σ j = ρ k) : ∀ j, j < n → ∃ k, k < n ∧ swp r i σ j = ρ k := by
  intro j hj
  unfold swp
  split
  · exact h i hi
  · split
    · exact h r hr
    · exact h j hj
end Go.Proofs.Ytjpibfnkchbglab
