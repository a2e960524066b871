/- What matrix.Mul answers, for all lists of lists of bytes. -/
import Derived.Test.YtjpibfnkchbglabUnit
namespace Go.Proofs.Ytjpibfnkchbglab
open Go.ChangeShapes Go.WideShapes Go.ChangeAt Go.RowKit Go.Shelf
theorem chkR_zero {n : Nat} : ∀ {A : List (List Nat)}, chkR n A = 0 → ∀ j, j < A.length → (A[j]?.getD []).length = n ∧ 1 ≤ n ∧ n ≤ 16
  | [], _, j, hj => by simp at hj
  | r :: rs, h, j, hj => by
    rw [chkR] at h
    by_cases c1 : 16 < r.length
    · rw [if_pos c1] at h; cases h
    · rw [if_neg c1] at h
      by_cases c2 : r.length = 0 ∨ r.length ≠ n
      · rw [if_pos c2] at h; cases h
      · rw [if_neg c2] at h
        cases j with
        | zero => simp; omega
        | succ j => simp at hj ⊢; exact chkR_zero h j hj
/-- what a matrix that Check lets through is like -/
structure Rect (A : List (List Nat)) (n c : Nat) : Prop where
  len : A.length = n
  row : ∀ j, j < n → (A[j]?.getD []).length = c
  n1 : 1 ≤ n
  n16 : n ≤ 16
  c1 : 1 ≤ c
  c16 : c ≤ 16
theorem chk_rect {A : List (List Nat)} (h : chk A = 0) : Rect A A.length (A[0]?.getD []).length := by
  unfold chk at h
  by_cases c1 : 16 < A.length
  · rw [if_pos c1] at h; cases h
  · rw [if_neg c1] at h
    by_cases c2 : A.length = 0
    · rw [if_pos c2] at h; cases h
    · rw [if_neg c2] at h
      have := chkR_zero h
      exact ⟨rfl, fun j hj => (this j hj).1, by omega, by omega, (this 0 (by omega)).2.1, (this 0 (by omega)).2.2⟩
theorem rect_chk {A : List (List Nat)} {n c : Nat} (h : Rect A n c) : chk A = 0 := by
  have key : ∀ (B : List (List Nat)), (∀ j, j < B.length → (B[j]?.getD []).length = c) → chkR c B = 0 := by
    intro B
    induction B with
    | nil => intro _; rfl
    | cons r rs ih =>
      intro hB
      have h0 := hB 0 (by simp)
      simp at h0
      have c1 := h.c1
      have c16 := h.c16
      rw [chkR, if_neg (by omega), if_neg (by omega)]
      exact ih fun j hj => by have := hB (j + 1) (by simpa using hj); simpa using this
  have n1 := h.n1
  have n16 := h.n16
  have hl := h.len
  unfold chk
  rw [if_neg (by omega), if_neg (by omega), h.row 0 (by omega)]
  exact key A fun j hj => h.row j (by omega)
/-- a product's rows -/
def pf (A B : List (List Nat)) (t : Nat) (i k : Nat) : Nat := dot t (ent A i) (fun j => ent B j k)
theorem two_boxes (w : World) (x y : Value) : ((w.alloc (.cells #[x] 23)).alloc (.cells #[y] 23)).cell? ⟨w.heap.size, 0, none⟩ = some x ∧ ((w.alloc (.cells #[x] 23)).alloc (.cells #[y] 23)).cell? ⟨w.heap.size + 1, 0, none⟩ = some y ∧ ((w.alloc (.cells #[x] 23)).alloc (.cells #[y] 23)).heap.size = w.heap.size + 2 ∧ Below w.heap.size w ((w.alloc (.cells #[x] 23)).alloc (.cells #[y] 23)) := by
  refine ⟨by simp [go_sem], by simp [go_sem], by simp, ?_⟩
  exact ((Below.refl _ w).alloc (Nat.le_refl _) _).alloc (by simp) _
theorem mul_clo (ba bb : Nat) (va vb : Value) (A B : List (List Nat)) (n t c : Nat) (w : World) (ca : w.cell? ⟨ba, 0, none⟩ = some va) (cb : w.cell? ⟨bb, 0, none⟩ = some vb) (la : ba < w.heap.size) (lb : bb < w.heap.size) (hA : Mx w.heap.size w va A) (hB : Mx w.heap.size w vb B) (rA : Rect A n t) (rB : Rect B t c) (bA : ∀ i, i < n → ∀ x ∈ A[i]?.getD [], x < 256) :
    Clo 41 #[.pointer (some ⟨ba, 0, none⟩), .pointer (some ⟨bb, 0, none⟩)] w (pf A B t) n c := by
  intro W hW i k hi hk
  have t16 := rB.n16
  refine ⟨dot_lt fun j _ => getD_lt (bA i hi) j, ?_⟩
  refine (mul1_any ba bb va vb A B w.heap.size W ((hW.cell (p := ⟨ba, 0, none⟩) la).trans ca) ((hW.cell (p := ⟨bb, 0, none⟩) lb).trans cb) (hA.below hW) (hB.below hW) i k t (by rw [rA.len]; exact hi) (rA.row i hi) (by rw [rB.len]; exact Nat.le_refl _) (fun j hj => by rw [rB.row j hj]; exact hk) (by omega)).mono ?_
  rintro e w' ⟨rfl, rfl⟩
  exact ⟨rfl, Below.refl _ _⟩
set_option maxRecDepth 100000 in
set_option maxHeartbeats 4000000 in
theorem mmul_ok (va vb : Value) (A B : List (List Nat)) (n t c : Nat) (w : World) (hA : Mx w.heap.size w va A) (hB : Mx w.heap.size w vb B) (rA : Rect A n t) (rB : Rect B t c) (bA : ∀ i, i < n → ∀ x ∈ A[i]?.getD [], x < 256) :
    Calls Try.prog 14 #[va, vb] w fun e w' => ∃ v, e = .returned (.tuple #[v, .int .i64 0]) ∧ Mx w'.heap.size w' v (tab n c (pf A B t)) ∧ Below w.heap.size w w' := by
  have HA := hid_of hA
  have HB := hid_of hB
  have KA := hid_of (rect_chk rA)
  have KB := hid_of (rect_chk rB)
  have RA := hid_of rA
  have RB := hid_of rB
  have BA := hid_of bA
  obtain ⟨a, ca, hva⟩ := hA.shape
  obtain ⟨b, cb, hvb⟩ := hB.shape
  rw [rA.len] at hva
  rw [rB.len] at hvb
  have n16 := rA.n16
  have n1 := rA.n1
  have t16 := rA.c16
  have t1 := rA.c1
  have c16 := rB.c16
  subst hva
  subst hvb
  obtain ⟨b1, o1, r1, k1, rfl, hx, _⟩ := hA.at (j := 0) (by rw [rA.len]; omega)
  obtain ⟨b2, o2, r2, k2, rfl, hy, _⟩ := hB.at (j := 0) (by rw [rB.len]; omega)
  rw [rA.row 0 (by omega), Nat.add_zero] at hx
  rw [rB.row 0 (by omega), Nat.add_zero] at hy
  have hmf : ∀ (fn : Fn) (first cap : Array Value) (w : World), (Instr.makeFunc fn first cap).run Try.prog w = .ok (.func fn first cap) w := fun _ _ _ _ => rfl
  clear hA hB rA rB bA
  go_enter Try.func14, Try.ntmps14
  go_wp2_with fail
  obtain ⟨c1, c2, c3, hB⟩ := two_boxes w (.slice (some ⟨b1, o1, none⟩) n ca) (.slice (some ⟨b2, o2, none⟩) t cb)
  generalize (w.alloc (.cells #[.slice (some ⟨b1, o1, none⟩) n ca] 23)).alloc (.cells #[.slice (some ⟨b2, o2, none⟩) t cb] 23) = w2 at *
  have A2 := hid_of ((HA.out.below hB).mono hB.size)
  have B2 := hid_of ((HB.out.below hB).mono hB.size)
  have x2 := (hB.cell (p := ⟨b1, o1, none⟩) (cell_lt hx)).trans hx
  have y2 := (hB.cell (p := ⟨b2, o2, none⟩) (cell_lt hy)).trans hy
  have BB := hid_of hB
  have C1 := hid_of c1
  have C2 := hid_of c2
  have hne : ((t : Int) != (t : Int)) = false := by simp
  clear hx hy hB HA HB
  refine (check_any _ A _ _ A2.out).mono ?_
  rintro e w3 ⟨rfl, hw⟩
  subst hw
  rw [KA.out]
  go_wp2_with fail
  refine (check_any _ B _ _ B2.out).mono ?_
  rintro e w4 ⟨rfl, hw⟩
  subst hw
  rw [KB.out]
  go_wp2_with fail
  go_quiet (fail)
  have c3' : (w4.drewN nq).heap.size = w.heap.size + 2 := c3
  have A5 : Hid (Mx (w4.drewN nq).heap.size (w4.drewN nq) (.slice (some ⟨b1, o1, none⟩) n ca) A) := A2.out
  have B5 : Hid (Mx (w4.drewN nq).heap.size (w4.drewN nq) (.slice (some ⟨b2, o2, none⟩) t cb) B) := B2.out
  have c1' : (w4.drewN nq).cell? ⟨w.heap.size, 0, none⟩ = some (.slice (some ⟨b1, o1, none⟩) n ca) := C1.out
  have c2' : (w4.drewN nq).cell? ⟨w.heap.size + 1, 0, none⟩ = some (.slice (some ⟨b2, o2, none⟩) t cb) := C2.out
  have y5 : (w4.drewN nq).cell? ⟨b2, o2, none⟩ = some (.slice r2 c k2) := y2
  have BB5 := hid_of (below_drewN nq BB.out)
  clear A2 B2 C1 C2 c1 c2 c3 x2 y2 BB
  generalize w4.drewN nq = w6 at *
  have HCl : Hid (Clo 41 #[.pointer (some ⟨w.heap.size, 0, none⟩), .pointer (some ⟨w.heap.size + 1, 0, none⟩)] w6.drew (pf A B t) n c) := mul_clo _ _ _ _ A B n t c w6.drew c1' c2' (by show _ < w6.heap.size; omega) (by show _ < w6.heap.size; omega) A5.out B5.out RA.out RB.out BA.out
  clear c3'
  have BBd : Hid (Below w.heap.size w w6.drew) := ⟨BB5.out.os, BB5.out.tape, BB5.out.output, BB5.out.size, BB5.out.block⟩
  go_wp2_with fail
  go_region_with (go_at_call 28; refine (fill_any n c 41 _ (pf A B t) _ (by omega) (by omega) cf30 HCl.out).mono ?_; rintro e w7 ⟨ρ, rfl, hF⟩)
  all_goals go_wp2_with fail
  all_goals go_ret2
  all_goals exact ⟨_, rfl, hF.mx (by omega) (by omega) (fun i k hi hk => (HCl.out _ (Below.refl _ _) i k hi hk).1), BBd.out.trans (hF.bel.mono BBd.out.size)⟩
end Go.Proofs.Ytjpibfnkchbglab
