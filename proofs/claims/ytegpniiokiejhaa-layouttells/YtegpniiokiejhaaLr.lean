/- What the reference's layout calls answer: LayoutCheck, NodeOf, LayoutNode. -/
import Derived.Test.YtegpniiokiejhaaLy5
namespace Go.Proofs.Ytegpniiokiejhaa
open Go.ChangeShapes Go.WideShapes Go.ChangeAt Go.RowKit Go.Shelf
theorem lck_three {N D M T : Int} (h : (N < 1 ∨ 12 < N) ∨ (D < 1 ∨ 8 < D) ∨ (M < 1 ∨ 6 < M)) : lck N D M T = 3 := by
  unfold lck
  rw [if_neg]
  simp [cnt]
  omega
theorem lck_few {N D M T : Int} (n1 : 1 ≤ N) (n2 : N ≤ 12) (d1 : 1 ≤ D) (d2 : D ≤ 8) (m1 : 1 ≤ M) (m2 : M ≤ 6) (h : N < D + M) : lck N D M T = 8 := by
  unfold lck
  rw [if_pos (by simp [cnt]; omega), if_pos h]
theorem lck_turn {N D M T : Int} (n1 : 1 ≤ N) (n2 : N ≤ 12) (d1 : 1 ≤ D) (d2 : D ≤ 8) (m1 : 1 ≤ M) (m2 : M ≤ 6) (h : D + M ≤ N) (ht : T < 0 ∨ N ≤ T) : lck N D M T = 3 := by
  unfold lck
  rw [if_pos (by simp [cnt]; omega), if_neg (by omega), if_neg (by simp [blw]; omega)]
set_option maxHeartbeats 1000000 in
theorem refCheck_any (N D M T : Int) (w : World) : Calls Try.prog 19 #[lay N D M T] w fun x w' => x = .returned (.int .i64 (lck N D M T)) ∧ Below w.heap.size w w' := by
  have HN : Hid (lay N D M T = .agg #[.int .i64 N, .int .i64 D, .int .i64 M, .int .i64 T]) := rfl
  rw [HN.out]
  by_cases a1 : N < 1
  · have HR := hid_of (@lck_three N D M T (by omega))
    go_enter Try.func19, Try.ntmps19
    go_wp2_with fail
    go_ret
    exact ⟨ret_int HR.out.symm, below_new _ _⟩
  by_cases a2 : 12 < N
  · have HR := hid_of (@lck_three N D M T (by omega))
    go_enter Try.func19, Try.ntmps19
    go_wp2_with fail
    go_ret
    exact ⟨ret_int HR.out.symm, below_new _ _⟩
  by_cases a3 : D < 1
  · have HR := hid_of (@lck_three N D M T (by omega))
    go_enter Try.func19, Try.ntmps19
    go_wp2_with fail
    go_ret
    exact ⟨ret_int HR.out.symm, below_new _ _⟩
  by_cases a4 : 8 < D
  · have HR := hid_of (@lck_three N D M T (by omega))
    go_enter Try.func19, Try.ntmps19
    go_wp2_with fail
    go_ret
    exact ⟨ret_int HR.out.symm, below_new _ _⟩
  by_cases a5 : M < 1
  · have HR := hid_of (@lck_three N D M T (by omega))
    go_enter Try.func19, Try.ntmps19
    go_wp2_with fail
    go_ret
    exact ⟨ret_int HR.out.symm, below_new _ _⟩
  by_cases a6 : 6 < M
  · have HR := hid_of (@lck_three N D M T (by omega))
    go_enter Try.func19, Try.ntmps19
    go_wp2_with fail
    go_ret
    exact ⟨ret_int HR.out.symm, below_new _ _⟩
  by_cases a7 : N < D + M
  · have HR := hid_of (@lck_few N D M T (by omega) (by omega) (by omega) (by omega) (by omega) (by omega) a7)
    go_enter Try.func19, Try.ntmps19
    go_wp2_with fail
    go_ret
    exact ⟨ret_int HR.out.symm, below_new _ _⟩
  by_cases a8 : T < 0
  · have HR := hid_of (@lck_turn N D M T (by omega) (by omega) (by omega) (by omega) (by omega) (by omega) (by omega) (by omega))
    go_enter Try.func19, Try.ntmps19
    go_wp2_with fail
    go_ret
    exact ⟨ret_int HR.out.symm, below_new _ _⟩
  by_cases a9 : N ≤ T
  · have HR := hid_of (@lck_turn N D M T (by omega) (by omega) (by omega) (by omega) (by omega) (by omega) (by omega) (by omega))
    go_enter Try.func19, Try.ntmps19
    go_wp2_with fail
    go_ret
    exact ⟨ret_int HR.out.symm, below_new _ _⟩
  have HR := hid_of (@lck_of N D M T ⟨by omega, by omega, by omega, by omega, by omega, by omega, by omega, by omega, by omega⟩)
  go_enter Try.func19, Try.ntmps19
  go_wp2_with fail
  go_ret
  exact ⟨ret_int HR.out.symm, below_new _ _⟩
theorem ndo_step {N T : Int} {k : Nat} (h : 1 ≤ N) : (T + (k : Nat)) % N + 1 = N ∧ (T + ((k + 1 : Nat) : Int)) % N = 0 ∨ ((T + (k : Nat)) % N + 1 ≠ N ∧ (T + ((k + 1 : Nat) : Int)) % N = (T + (k : Nat)) % N + 1) := by
  have a := Int.emod_nonneg (T + (k : Nat)) (show N ≠ 0 by omega)
  have b := Int.emod_lt_of_pos (T + (k : Nat)) (show 0 < N by omega)
  have e : (T + ((k + 1 : Nat) : Int)) % N = ((T + (k : Nat)) % N + 1) % N := by
    rw [Int.emod_add_emod]
    congr 1
    omega
  by_cases c : (T + (k : Nat)) % N + 1 = N
  · left
    refine ⟨c, ?_⟩
    rw [e, c, Int.emod_self]
  · right
    refine ⟨c, ?_⟩
    rw [e]
    exact Int.emod_eq_of_lt (by omega) (by omega)
set_option maxHeartbeats 1000000 in
theorem refNode_ndo (N D M T s p : Int) (w : World) (n1 : 1 ≤ N) (n2 : N ≤ 12) (t1 : 0 ≤ T) (t2 : T < N) (s1 : 0 ≤ s) (s2 : s ≤ 64) (p1 : 0 ≤ p) (p2 : p ≤ 64) : Calls Try.prog 39 #[lay N D M T, .int .i64 s, .int .i64 p] w fun x w' => x = .returned (.int .i64 (ndo N T s p)) ∧ Below w.heap.size w w' := by
  have HN : Hid (lay N D M T = .agg #[.int .i64 N, .int .i64 D, .int .i64 M, .int .i64 T]) := rfl
  obtain ⟨j, hj⟩ : ∃ j : Nat, s + p = (j : Int) := ⟨(s + p).toNat, by omega⟩
  have HJ : Hid (ndo N T s p = (T + (j : Nat)) % N) := hid_of (by unfold ndo; rw [← hj, Int.add_assoc])
  have H0 : Hid (T = (T + ((0 : Nat) : Int)) % N) := hid_of (by rw [Int.natCast_zero, Int.add_zero]; exact (Int.emod_eq_of_lt t1 t2).symm)
  have hj2 : j ≤ 128 := by omega
  have HJJ := hid_of hj
  clear hj
  rw [HN.out]
  have X0 := hid_of (show Bx _ _ _ _ _ _ from heap_new w (.cells #[.int .i64 N, .int .i64 D, .int .i64 M, .int .i64 T] 23)).cells
  go_enter Try.func39, Try.ntmps39
  go_wp2_with fail
  go_loop [7, 8] (fun n i => ∃ k : Nat, k ≤ j ∧ n = .int .i64 ((T + (k : Nat)) % N) ∧ i = .int .i64 k) (fun _ i => j - (intOf i).toNat)
  case atStart => exact ⟨0, by omega, by rw [← H0.out], rfl⟩
  case round =>
    obtain ⟨k, hk, rfl, rfl⟩ := hrel
    have hjj := HJJ.out
    have HS := hid_of (@ndo_step N T k n1)
    have a := Int.emod_nonneg (T + (k : Nat)) (show N ≠ 0 by omega)
    have b := Int.emod_lt_of_pos (T + (k : Nat)) (show 0 < N by omega)
    obtain ⟨x, hx⟩ : ∃ x, (T + (k : Nat)) % N = x := ⟨_, rfl⟩
    rw [hx] at a b HS
    rw [hx]
    have HX := hid_of hx
    clear hx
    by_cases hlt : k < j
    · have tl : (k : Int) < s + p := by omega
      clear hjj
      rcases HS.out with ⟨c, d⟩ | ⟨c, d⟩
      · have HD := hid_of d
        have tc : (x + 1 == N) = true := by rw [c]; simp
        clear d c
        go_wp2_with fail
        go_round
        case rel => exact ⟨k + 1, by omega, by rw [HD.out], by go_num⟩
        case measure => simp [intOf]; omega
      · have HD := hid_of d
        have tc : (x + 1 == N) = false := beq_eq_false_iff_ne.2 c
        clear d c
        go_wp2_with fail
        go_round
        case rel => exact ⟨k + 1, by omega, by rw [HD.out], by go_num⟩
        case measure => simp [intOf]; omega
    · have tl : ¬ (k : Int) < s + p := by omega
      have hke : k = j := by omega
      subst hke
      clear hjj
      go_wp2_with fail
      go_ret
      exact ⟨ret_int (by rw [HJ.out, HX.out]), below_new _ _⟩
end Go.Proofs.Ytegpniiokiejhaa
