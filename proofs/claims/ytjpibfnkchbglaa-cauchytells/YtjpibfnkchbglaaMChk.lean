/- What the reference's MatrixCheck answers: what Check answers. -/
import Derived.Test.YtjpibfnkchbglaaCOf
namespace Go.Proofs.Ytjpibfnkchbglaa
open Go.ChangeShapes Go.WideShapes Go.ChangeAt Go.RowKit Go.Shelf
set_option maxRecDepth 100000 in
set_option maxHeartbeats 4000000 in
theorem mcheck_any (v : Value) (A : List (List Nat)) (w : World) (h : Mx w.heap.size w v A) :
    Calls Try.prog 20 #[v] w fun e w' => e = .returned (.int .i64 (chk A : Nat)) ∧ Below w.heap.size w w' := by
  have HM := hid_of h
  obtain ⟨a2, ao, cap, rfl, a4, a6⟩ := h
  clear a6
  by_cases c1 : 16 < A.length
  · have z : decide ((16 : Int) < (A.length : Int)) = true := decide_eq_true (by omega)
    have HE : Hid (chk A = 2) := by show chk A = 2; unfold chk; rw [if_pos c1]
    go_enter Try.func20, Try.ntmps20
    go_wp2_with fail
    go_ret
    exact ⟨by rw [HE.out]; rfl, Below.refl _ _⟩
  · have z : decide ((16 : Int) < (A.length : Int)) = false := decide_eq_false (by omega)
    by_cases c2 : A.length = 0
    · have HE : Hid (chk A = 1) := by show chk A = 1; unfold chk; rw [if_neg c1, if_pos c2]
      rw [c2] at z ⊢
      go_enter Try.func20, Try.ntmps20
      go_wp2_with fail
      go_ret
      exact ⟨by rw [HE.out]; rfl, Below.refl _ _⟩
    · have z2 : ((A.length : Int) == 0) = false := by rw [beq_eq_false_iff_ne]; omega
      have HE : Hid (chk A = chkR (A[0]?.getD []).length (A.drop 0)) := by show chk A = _; unfold chk; rw [if_neg c1, if_neg c2]; rfl
      obtain ⟨b, off, r0, k0, rfl, hz, hz2⟩ := HM.out.at (j := 0) (by omega)
      obtain ⟨n0, hn0⟩ : ∃ n, (A[0]?.getD []).length = n := ⟨_, rfl⟩
      rw [hn0] at HE hz
      have l0 : n0 ≤ 140737488351232 := by rw [← hn0]; exact hz2.2.1
      rw [Nat.add_zero] at hz
      have HZ := hid_of hz
      have hp : (0 : Int) < (A.length : Int) := by omega
      clear hz2 hn0 hz
      go_enter Try.func20, Try.ntmps20
      go_wp2_with fail
      go_loopw [3] (fun i w' => ∃ k : Nat, k ≤ A.length ∧ i = .int .i64 k ∧ Hid (chk A = chkR n0 (A.drop k)) ∧ Hid (Below w.heap.size w w')) (fun i _ => A.length - (intOf i).toNat)
      case atStart => exact ⟨0, by omega, rfl, HE, Below.refl _ _⟩
      case round =>
        obtain ⟨k, hk, rfl, HK, HB⟩ := hrel
        have hz := (HB.out.cell (p := ⟨b, off, none⟩) (cell_lt HZ.out)).trans HZ.out
        by_cases hlt : k < A.length
        · obtain ⟨b', off', r1, k1, e1, hx, hx2⟩ := (HM.out.below HB.out).at (j := k) hlt
          cases e1
          have hd := HK.out
          rw [drop_cons hlt, chkR] at hd
          obtain ⟨n1, hn1⟩ : ∃ n, (A[k]?.getD []).length = n := ⟨_, rfl⟩
          have l1 : n1 ≤ 140737488351232 := by rw [← hn1]; exact hx2.2.1
          rw [hn1] at hx hd
          have q1 : (k : Int) < (A.length : Int) := by omega
          clear hx2 hn1
          by_cases d1 : 16 < n1
          · rw [if_pos d1] at hd
            have HD := hid_of hd
            have y : decide ((16 : Int) < (n1 : Int)) = true := decide_eq_true (by omega)
            clear hd
            go_wp2_with fail
            go_ret
            exact ⟨by rw [HD.out]; rfl, HB.out⟩
          · rw [if_neg d1] at hd
            have y : decide ((16 : Int) < (n1 : Int)) = false := decide_eq_false (by omega)
            by_cases d2 : n1 = 0
            · rw [if_pos (.inl d2)] at hd
              have HD := hid_of hd
              subst d2
              clear hd
              go_wp2_with fail
              go_quiet (fail)
              go_wp2_with fail
              go_ret
              exact ⟨by rw [HD.out]; rfl, below_drewN _ HB.out⟩
            · have y2 : ((n1 : Int) == 0) = false := by rw [beq_eq_false_iff_ne]; omega
              by_cases d3 : n1 = n0
              · rw [if_neg (by omega)] at hd
                have HD := hid_of hd
                have y3 : ((n1 : Int) != (n0 : Int)) = false := by rw [d3]; simp
                clear hd d3
                go_wp2_with fail
                go_quiet (fail)
                go_wp2_with fail
                go_roundw
                case rel => exact ⟨k + 1, by omega, by go_num, HD, below_drewN _ HB.out⟩
                case measure => simp [intOf]; omega
              · rw [if_pos (.inr d3)] at hd
                have HD := hid_of hd
                have y3 : ((n1 : Int) != (n0 : Int)) = true := by rw [bne_iff_ne]; omega
                clear hd d3
                go_wp2_with fail
                go_quiet (fail)
                go_wp2_with fail
                go_ret
                exact ⟨by rw [HD.out]; rfl, below_drewN _ HB.out⟩
        · have hke : k = A.length := by omega
          subst hke
          have hd := HK.out
          rw [List.drop_length, chkR] at hd
          have HD := hid_of hd
          clear hd
          go_wp2_with fail
          go_ret
          exact ⟨by rw [HD.out]; rfl, HB.out⟩
end Go.Proofs.Ytjpibfnkchbglaa
