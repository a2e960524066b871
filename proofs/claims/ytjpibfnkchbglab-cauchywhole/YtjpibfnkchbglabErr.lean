/- What Mul, Inverse and Rank answer of what they do not take; and of everything, told in one. -/
import Derived.Test.YtjpibfnkchbglabInv
namespace Go.Proofs.Ytjpibfnkchbglab
open Go.ChangeShapes Go.WideShapes Go.ChangeAt Go.RowKit Go.Shelf
set_option maxRecDepth 100000 in
set_option maxHeartbeats 2000000 in
theorem mmul_a (va vb : Value) (A B : List (List Nat)) (w : World) (hA : Mx w.heap.size w va A) (hB0 : Mx w.heap.size w vb B) (h : chk A ≠ 0) :
    Calls Try.prog 14 #[va, vb] w fun e w' => e = .returned (.tuple #[.slice none 0 0, .int .i64 (chk A : Nat)]) ∧ Below w.heap.size w w' := by
  have HA := hid_of hA
  obtain ⟨a, ca, hva⟩ := hA.shape
  subst hva
  obtain ⟨b, cb, hvb⟩ := hB0.shape
  subst hvb
  obtain ⟨c1, c2, c3, hB⟩ := two_boxes w (.slice a A.length ca) (.slice b B.length cb)
  have A2 := hid_of ((HA.out.below hB).mono hB.size)
  have BB := hid_of hB
  obtain ⟨x, hx⟩ : ∃ x, chk A = x := ⟨_, rfl⟩
  rw [hx] at h ⊢
  have HX := hid_of hx
  have z : ((x : Int) != 0) = true := by rw [bne_iff_ne]; omega
  clear hA hB hB0 c1 c2 c3 hx
  go_enter Try.func14, Try.ntmps14
  go_wp2_with fail
  refine (check_any _ A _ _ A2.out).mono ?_
  rintro e w3 ⟨rfl, hw⟩
  subst hw
  rw [HX.out]
  go_wp2_with fail
  go_ret2
  exact ⟨rfl, BB.out⟩
set_option maxRecDepth 100000 in
set_option maxHeartbeats 2000000 in
theorem mmul_b (va vb : Value) (A B : List (List Nat)) (w : World) (hA : Mx w.heap.size w va A) (hB : Mx w.heap.size w vb B) (h0 : chk A = 0) (h : chk B ≠ 0) :
    Calls Try.prog 14 #[va, vb] w fun e w' => e = .returned (.tuple #[.slice none 0 0, .int .i64 (chk B : Nat)]) ∧ Below w.heap.size w w' := by
  have HA := hid_of hA
  have HB := hid_of hB
  obtain ⟨a, ca, hva⟩ := hA.shape
  subst hva
  obtain ⟨b, cb, hvb⟩ := hB.shape
  subst hvb
  obtain ⟨c1, c2, c3, hbl⟩ := two_boxes w (.slice a A.length ca) (.slice b B.length cb)
  have A2 := hid_of ((HA.out.below hbl).mono hbl.size)
  have B2 := hid_of ((HB.out.below hbl).mono hbl.size)
  have BB := hid_of hbl
  obtain ⟨x, hx⟩ : ∃ x, chk B = x := ⟨_, rfl⟩
  rw [hx] at h ⊢
  have HX := hid_of hx
  have H0 := hid_of h0
  have z : ((x : Int) != 0) = true := by rw [bne_iff_ne]; omega
  clear hA hB hbl c3 hx h0
  go_enter Try.func14, Try.ntmps14
  go_wp2_with fail
  generalize (w.alloc (.cells #[.slice a A.length ca] 23)).alloc (.cells #[.slice b B.length cb] 23) = w2 at *
  refine (check_any _ A _ _ A2.out).mono ?_
  rintro e w3 ⟨rfl, hw⟩
  subst hw
  rw [H0.out]
  go_wp2_with fail
  refine (check_any _ B _ _ B2.out).mono ?_
  rintro e w4 ⟨rfl, hw⟩
  subst hw
  rw [HX.out]
  go_wp2_with fail
  go_ret2
  exact ⟨rfl, BB.out⟩
set_option maxRecDepth 100000 in
set_option maxHeartbeats 2000000 in
theorem mmul_f (va vb : Value) (A B : List (List Nat)) (n t m c : Nat) (w : World) (hA : Mx w.heap.size w va A) (hB : Mx w.heap.size w vb B) (rA : Rect A n t) (rB : Rect B m c) (h : t ≠ m) :
    Calls Try.prog 14 #[va, vb] w fun e w' => e = .returned (.tuple #[.slice none 0 0, .int .i64 1]) ∧ Below w.heap.size w w' := by
  have HA := hid_of hA
  have HB := hid_of hB
  have KA := hid_of (rect_chk rA)
  have KB := hid_of (rect_chk rB)
  obtain ⟨a, ca, hva⟩ := hA.shape
  obtain ⟨b, cb, hvb⟩ := hB.shape
  rw [rA.len] at hva
  rw [rB.len] at hvb
  have n16 := rA.n16
  have n1 := rA.n1
  have t16 := rA.c16
  have m16 := rB.n16
  subst hva
  subst hvb
  obtain ⟨b1, o1, r1, k1, rfl, hx, _⟩ := hA.at (j := 0) (by rw [rA.len]; omega)
  rw [rA.row 0 (by omega), Nat.add_zero] at hx
  clear hA hB rA rB
  go_enter Try.func14, Try.ntmps14
  go_wp2_with fail
  obtain ⟨c1, c2, c3, hB⟩ := two_boxes w (.slice (some ⟨b1, o1, none⟩) n ca) (.slice b m cb)
  generalize (w.alloc (.cells #[.slice (some ⟨b1, o1, none⟩) n ca] 23)).alloc (.cells #[.slice b m cb] 23) = w2 at *
  have A2 := hid_of ((HA.out.below hB).mono hB.size)
  have B2 := hid_of ((HB.out.below hB).mono hB.size)
  have x2 := (hB.cell (p := ⟨b1, o1, none⟩) (cell_lt hx)).trans hx
  have BB := hid_of hB
  have hne : ((t : Int) != (m : Int)) = true := by rw [bne_iff_ne]; omega
  clear hx hB HA HB c3
  refine (check_any _ A _ _ A2.out).mono ?_
  rintro e w3 ⟨rfl, hw⟩
  subst hw
  rw [KA.out]
  go_wp2_with fail
  refine (check_any _ B _ _ B2.out).mono ?_
  rintro e w4 ⟨rfl, hw⟩
  subst hw
  rw [KB.out]
  go_wp2_with fail
  go_quiet (fail)
  go_wp2_with fail
  go_ret2
  exact ⟨rfl, below_drewN _ BB.out⟩
/-- what Mul says beside -/
def mme (A B : List (List Nat)) : Nat := if chk A ≠ 0 then chk A else if chk B ≠ 0 then chk B else if (A[0]?.getD []).length ≠ B.length then 1 else 0
/-- what Mul makes -/
def mmp (A B : List (List Nat)) : List (List Nat) := if mme A B ≠ 0 then [] else tab A.length (B[0]?.getD []).length (pf A B B.length)
/-- the bytes of a matrix that is read -/
theorem Mx.bytes {n : Nat} {w : World} {v : Value} {A : List (List Nat)} (h : Mx n w v A) : ∀ i, i < A.length → ∀ x ∈ A[i]?.getD [], x < 256 := by
  intro i hi
  obtain ⟨a, c, hv⟩ := h.shape
  subst hv
  obtain ⟨_, _, _, _, _, _, h2⟩ := h.at hi
  exact h2.1
theorem mmul_all (va vb : Value) (A B : List (List Nat)) (w : World) (hA : Mx w.heap.size w va A) (hB : Mx w.heap.size w vb B) (er : Nat) (her : mme A B = er) :
    Calls Try.prog 14 #[va, vb] w fun e w' => ∃ v, e = .returned (.tuple #[v, .int .i64 (er : Nat)]) ∧ Mx w'.heap.size w' v (mmp A B) ∧ Below w.heap.size w w' := by
  unfold mmp
  rw [her]
  unfold mme at her
  subst her
  by_cases h1 : chk A ≠ 0
  · rw [if_pos h1, if_pos h1]
    exact (mmul_a va vb A B w hA hB h1).mono fun e w' ⟨he, hb⟩ => ⟨_, he, Mx.nil _ _, hb⟩
  · have h1' : chk A = 0 := by omega
    rw [if_neg h1]
    by_cases h2 : chk B ≠ 0
    · rw [if_pos h2, if_pos h2]
      exact (mmul_b va vb A B w hA hB h1' h2).mono fun e w' ⟨he, hb⟩ => ⟨_, he, Mx.nil _ _, hb⟩
    · have h2' : chk B = 0 := by omega
      rw [if_neg h2]
      have rA := chk_rect h1'
      have rB := chk_rect h2'
      by_cases h3 : (A[0]?.getD []).length ≠ B.length
      · rw [if_pos h3, if_pos (by decide)]
        exact (mmul_f va vb A B _ _ _ _ w hA hB rA rB h3).mono fun e w' ⟨he, hb⟩ => ⟨_, he, Mx.nil _ _, hb⟩
      · have h3' : (A[0]?.getD []).length = B.length := by omega
        rw [if_neg h3, if_neg (by decide)]
        rw [h3'] at rA
        exact mmul_ok va vb A B _ _ _ w hA hB rA rB hA.bytes
end Go.Proofs.Ytjpibfnkchbglab
