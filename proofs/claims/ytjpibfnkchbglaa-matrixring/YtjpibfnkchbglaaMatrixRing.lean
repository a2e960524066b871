/- For every three lists of lists of bytes MatrixRing answers true, and nothing that was handed in is changed. -/
import Derived.Test.YtjpibfnkchbglaaRows
import Derived.Test.YtjpibfnkchbglaaBegun
import Derived.Test.YtjpibfnkchbglaaRing
import Derived.Test.YtjpibfnkchbglaaArg
import Derived.WalkKit
import Derived.ProofKit
import Derived.OpenShut
import Derived.ShutString
import Derived.ChangeOld
import Derived.Below
import Derived.SizedLaws
namespace Go.Proofs.Ytjpibfnkchbglaa.matrixRing
open Go.ChangeShapes Go.WideShapes Go.ChangeAt Go.RowKit
open Go.ChangeMaps (open_string shut_string)
set_option linter.unusedVariables false

theorem own : ownKnob Try.prog.godebug = none := by kernel_rfl
theorem laidOut : laidOutB Try.prog = true := by kernel_rfl

set_option maxRecDepth 100000 in
set_option maxHeartbeats 16000000 in
theorem walk (v0 : Value) (A : List (List Nat)) (v1 : Value) (B : List (List Nat)) (v2 : Value) (C : List (List Nat)) (w : World) (h0 : Mx w.heap.size w v0 A) (h1 : Mx w.heap.size w v1 B) (h2 : Mx w.heap.size w v2 C) :
    Calls Try.prog 5 #[v0, v1, v2] w fun e w' => e = .returned (.bool true) ∧ Below w.heap.size w w' := by
  have HA := hid_of h0
  have HB := hid_of h1
  have HC := hid_of h2
  have bA : Bym A := h0.lt
  have bB : Bym B := h1.lt
  have HAS := hid_of (ring_assoc (C := C) bA bB)
  have HUN := hid_of (fun n c => ring_unit (n := n) (c := c) bA)
  obtain ⟨ea, hea⟩ : ∃ n, mme A B = n := ⟨_, rfl⟩
  obtain ⟨eb, heb⟩ : ∃ n, mme B C = n := ⟨_, rfl⟩
  obtain ⟨ec, hec⟩ : ∃ n, chk A = n := ⟨_, rfl⟩
  have EA := hid_of hea
  have EB := hid_of heb
  have EC := hid_of hec
  have BB := hid_of (Below.refl w.heap.size w)
  clear h0 h1 h2 bA bB hea heb hec
  go_enter Try.func5, Try.ntmps5
  go_wp2_with fail
  refine (begun_any _).mono ?_
  rintro e w_1 ⟨rfl, hB⟩
  have HA := hid_of ((HA.out.below hB).mono hB.size)
  have HB := hid_of ((HB.out.below hB).mono hB.size)
  have HC := hid_of ((HC.out.below hB).mono hB.size)
  have BB := hid_of (BB.out.trans (hB.mono BB.out.size))
  clear hB
  go_wp2_with fail
  refine (mmul_all _ _ A B _ HA.out HB.out ea EA.out).mono ?_
  rintro e w_2 ⟨vp, rfl, hP, hB⟩
  have HA := hid_of ((HA.out.below hB).mono hB.size)
  have HB := hid_of ((HB.out.below hB).mono hB.size)
  have HC := hid_of ((HC.out.below hB).mono hB.size)
  have BB := hid_of (BB.out.trans (hB.mono BB.out.size))
  have HP := hid_of hP
  clear hB hP
  go_wp2_with fail
  refine (mmul_all _ _ B C _ HB.out HC.out eb EB.out).mono ?_
  rintro e w_3 ⟨vq, rfl, hQ, hB⟩
  have HA := hid_of ((HA.out.below hB).mono hB.size)
  have HB := hid_of ((HB.out.below hB).mono hB.size)
  have HC := hid_of ((HC.out.below hB).mono hB.size)
  have HP := hid_of ((HP.out.below hB).mono hB.size)
  have BB := hid_of (BB.out.trans (hB.mono BB.out.size))
  have HQ := hid_of hQ
  clear hB hQ
  by_cases ca : ea = 0
  · subst ca
    by_cases cb : eb = 0
    · subst cb
      obtain ⟨q1, q2, q3⟩ := HAS.out EA.out EB.out
      have Q1 := hid_of q1
      have Q2 := hid_of q2
      have Q3 := hid_of q3
      clear q1 q2 q3
      go_wp2_with fail
      refine (mmul_all _ _ _ C _ HP.out HC.out 0 Q1.out).mono ?_
      rintro e w_4 ⟨vg, rfl, hG, hB⟩
      have HA := hid_of ((HA.out.below hB).mono hB.size)
      have HB := hid_of ((HB.out.below hB).mono hB.size)
      have HC := hid_of ((HC.out.below hB).mono hB.size)
      have HP := hid_of ((HP.out.below hB).mono hB.size)
      have HQ := hid_of ((HQ.out.below hB).mono hB.size)
      have BB := hid_of (BB.out.trans (hB.mono BB.out.size))
      have HG := hid_of hG
      clear hB hG
      go_wp2_with fail
      refine (mmul_all _ _ A _ _ HA.out HQ.out 0 Q2.out).mono ?_
      rintro e w_5 ⟨vh, rfl, hH, hB⟩
      have HA := hid_of ((HA.out.below hB).mono hB.size)
      have HB := hid_of ((HB.out.below hB).mono hB.size)
      have HC := hid_of ((HC.out.below hB).mono hB.size)
      have HP := hid_of ((HP.out.below hB).mono hB.size)
      have HQ := hid_of ((HQ.out.below hB).mono hB.size)
      have HG := hid_of ((HG.out.below hB).mono hB.size)
      have BB := hid_of (BB.out.trans (hB.mono BB.out.size))
      have HH := hid_of hH
      clear hB hH
      go_wp2_with fail
      refine (sameM_any _ _ _ _ _ _ HG.out HH.out (Nat.le_refl _)).mono ?_
      rintro e w_6 ⟨rfl, hB⟩
      rw [decide_eq_true Q3.out]
      have HA := hid_of ((HA.out.below hB).mono hB.size)
      have HB := hid_of ((HB.out.below hB).mono hB.size)
      have HC := hid_of ((HC.out.below hB).mono hB.size)
      have HP := hid_of ((HP.out.below hB).mono hB.size)
      have HQ := hid_of ((HQ.out.below hB).mono hB.size)
      have HG := hid_of ((HG.out.below hB).mono hB.size)
      have HH := hid_of ((HH.out.below hB).mono hB.size)
      have BB := hid_of (BB.out.trans (hB.mono BB.out.size))
      clear hB
      by_cases c : ec = 0
      · subst c
        have R0 := hid_of (chk_rect EC.out)
        obtain ⟨u1, u2, u3, u4⟩ := HUN.out _ _ R0.out
        have n1 := R0.out.n1
        have n16 := R0.out.n16
        have c1 := R0.out.c1
        have c16 := R0.out.c16
        obtain ⟨a0, ca, hva⟩ := HA.out.shape
        subst hva
        obtain ⟨n, hn⟩ : ∃ n, A.length = n := ⟨_, rfl⟩
        obtain ⟨m, hm⟩ : ∃ n, (A[0]?.getD []).length = n := ⟨_, rfl⟩
        rw [hn] at u1 u2 n1 n16 HA ⊢
        rw [hm] at u3 u4 c1 c16
        have HN := hid_of hn
        have HM := hid_of hm
        have U1 := hid_of u1
        have U2 := hid_of u2
        have U3 := hid_of u3
        have U4 := hid_of u4
        clear u1 u2 u3 u4 hn hm
        go_wp2_with fail
        refine (check_any _ A _ _ HA.out).mono ?_
        rintro e w_7 ⟨rfl, hw⟩
        subst hw
        rw [EC.out]
        go_wp2_with fail
        refine (unit_mx n _ n1 n16).mono ?_
        rintro e w_8 ⟨vu, rfl, hU, hB⟩
        have HA := hid_of ((HA.out.below hB).mono hB.size)
        have HB := hid_of ((HB.out.below hB).mono hB.size)
        have HC := hid_of ((HC.out.below hB).mono hB.size)
        have HP := hid_of ((HP.out.below hB).mono hB.size)
        have HQ := hid_of ((HQ.out.below hB).mono hB.size)
        have HG := hid_of ((HG.out.below hB).mono hB.size)
        have HH := hid_of ((HH.out.below hB).mono hB.size)
        have BB := hid_of (BB.out.trans (hB.mono BB.out.size))
        have HU := hid_of hU
        clear hB hU
        obtain ⟨b1, o1, r1, k1, rfl, hx, _⟩ := HA.out.at (j := 0) (by rw [HN.out]; omega)
        rw [HM.out, Nat.add_zero] at hx
        go_wp2_with fail
        refine (unit_mx m _ c1 c16).mono ?_
        rintro e w_9 ⟨vv, rfl, hV, hB⟩
        clear hx
        have HA := hid_of ((HA.out.below hB).mono hB.size)
        have HB := hid_of ((HB.out.below hB).mono hB.size)
        have HC := hid_of ((HC.out.below hB).mono hB.size)
        have HP := hid_of ((HP.out.below hB).mono hB.size)
        have HQ := hid_of ((HQ.out.below hB).mono hB.size)
        have HG := hid_of ((HG.out.below hB).mono hB.size)
        have HH := hid_of ((HH.out.below hB).mono hB.size)
        have HU := hid_of ((HU.out.below hB).mono hB.size)
        have BB := hid_of (BB.out.trans (hB.mono BB.out.size))
        have HV := hid_of hV
        clear hB hV
        go_wp2_with fail
        refine (mmul_all _ _ _ A _ HU.out HA.out 0 U1.out).mono ?_
        rintro e w_10 ⟨vx, rfl, hX, hB⟩
        rw [U2.out] at hX
        have HA := hid_of ((HA.out.below hB).mono hB.size)
        have HB := hid_of ((HB.out.below hB).mono hB.size)
        have HC := hid_of ((HC.out.below hB).mono hB.size)
        have HP := hid_of ((HP.out.below hB).mono hB.size)
        have HQ := hid_of ((HQ.out.below hB).mono hB.size)
        have HG := hid_of ((HG.out.below hB).mono hB.size)
        have HH := hid_of ((HH.out.below hB).mono hB.size)
        have HU := hid_of ((HU.out.below hB).mono hB.size)
        have HV := hid_of ((HV.out.below hB).mono hB.size)
        have BB := hid_of (BB.out.trans (hB.mono BB.out.size))
        have HX := hid_of hX
        clear hB hX
        go_wp2_with fail
        refine (mmul_all _ _ A _ _ HA.out HV.out 0 U3.out).mono ?_
        rintro e w_11 ⟨vy, rfl, hY, hB⟩
        rw [U4.out] at hY
        have HA := hid_of ((HA.out.below hB).mono hB.size)
        have HB := hid_of ((HB.out.below hB).mono hB.size)
        have HC := hid_of ((HC.out.below hB).mono hB.size)
        have HP := hid_of ((HP.out.below hB).mono hB.size)
        have HQ := hid_of ((HQ.out.below hB).mono hB.size)
        have HG := hid_of ((HG.out.below hB).mono hB.size)
        have HH := hid_of ((HH.out.below hB).mono hB.size)
        have HU := hid_of ((HU.out.below hB).mono hB.size)
        have HV := hid_of ((HV.out.below hB).mono hB.size)
        have HX := hid_of ((HX.out.below hB).mono hB.size)
        have BB := hid_of (BB.out.trans (hB.mono BB.out.size))
        have HY := hid_of hY
        clear hB hY
        go_wp2_with fail
        refine (sameM_any _ _ A A _ _ HX.out HA.out (Nat.le_refl _)).mono ?_
        rintro e w_12 ⟨rfl, hB⟩
        rw [decide_eq_true rfl]
        have HA := hid_of ((HA.out.below hB).mono hB.size)
        have HB := hid_of ((HB.out.below hB).mono hB.size)
        have HC := hid_of ((HC.out.below hB).mono hB.size)
        have HP := hid_of ((HP.out.below hB).mono hB.size)
        have HQ := hid_of ((HQ.out.below hB).mono hB.size)
        have HG := hid_of ((HG.out.below hB).mono hB.size)
        have HH := hid_of ((HH.out.below hB).mono hB.size)
        have HU := hid_of ((HU.out.below hB).mono hB.size)
        have HV := hid_of ((HV.out.below hB).mono hB.size)
        have HX := hid_of ((HX.out.below hB).mono hB.size)
        have HY := hid_of ((HY.out.below hB).mono hB.size)
        have BB := hid_of (BB.out.trans (hB.mono BB.out.size))
        clear hB
        go_wp2_with fail
        refine (sameM_any _ _ A A _ _ HY.out HA.out (Nat.le_refl _)).mono ?_
        rintro e w_13 ⟨rfl, hB⟩
        rw [decide_eq_true rfl]
        have HA := hid_of ((HA.out.below hB).mono hB.size)
        have HB := hid_of ((HB.out.below hB).mono hB.size)
        have HC := hid_of ((HC.out.below hB).mono hB.size)
        have HP := hid_of ((HP.out.below hB).mono hB.size)
        have HQ := hid_of ((HQ.out.below hB).mono hB.size)
        have HG := hid_of ((HG.out.below hB).mono hB.size)
        have HH := hid_of ((HH.out.below hB).mono hB.size)
        have HU := hid_of ((HU.out.below hB).mono hB.size)
        have HV := hid_of ((HV.out.below hB).mono hB.size)
        have HX := hid_of ((HX.out.below hB).mono hB.size)
        have HY := hid_of ((HY.out.below hB).mono hB.size)
        have BB := hid_of (BB.out.trans (hB.mono BB.out.size))
        clear hB
        go_wp2_with fail
        go_ret
        exact ⟨rfl, BB.out⟩
      · have z9 : ((ec : Int) != 0) = true := by rw [bne_iff_ne]; omega
        go_wp2_with fail
        refine (check_any _ A _ _ HA.out).mono ?_
        rintro e w_7 ⟨rfl, hw⟩
        subst hw
        rw [EC.out]
        go_wp2_with fail
        go_ret
        exact ⟨rfl, BB.out⟩
    · have z8 : ((eb : Int) == 0) = false := by rw [beq_eq_false_iff_ne]; omega
      by_cases c : ec = 0
      · subst c
        have R0 := hid_of (chk_rect EC.out)
        obtain ⟨u1, u2, u3, u4⟩ := HUN.out _ _ R0.out
        have n1 := R0.out.n1
        have n16 := R0.out.n16
        have c1 := R0.out.c1
        have c16 := R0.out.c16
        obtain ⟨a0, ca, hva⟩ := HA.out.shape
        subst hva
        obtain ⟨n, hn⟩ : ∃ n, A.length = n := ⟨_, rfl⟩
        obtain ⟨m, hm⟩ : ∃ n, (A[0]?.getD []).length = n := ⟨_, rfl⟩
        rw [hn] at u1 u2 n1 n16 HA ⊢
        rw [hm] at u3 u4 c1 c16
        have HN := hid_of hn
        have HM := hid_of hm
        have U1 := hid_of u1
        have U2 := hid_of u2
        have U3 := hid_of u3
        have U4 := hid_of u4
        clear u1 u2 u3 u4 hn hm
        go_wp2_with fail
        refine (check_any _ A _ _ HA.out).mono ?_
        rintro e w_4 ⟨rfl, hw⟩
        subst hw
        rw [EC.out]
        go_wp2_with fail
        refine (unit_mx n _ n1 n16).mono ?_
        rintro e w_5 ⟨vu, rfl, hU, hB⟩
        have HA := hid_of ((HA.out.below hB).mono hB.size)
        have HB := hid_of ((HB.out.below hB).mono hB.size)
        have HC := hid_of ((HC.out.below hB).mono hB.size)
        have HP := hid_of ((HP.out.below hB).mono hB.size)
        have HQ := hid_of ((HQ.out.below hB).mono hB.size)
        have BB := hid_of (BB.out.trans (hB.mono BB.out.size))
        have HU := hid_of hU
        clear hB hU
        obtain ⟨b1, o1, r1, k1, rfl, hx, _⟩ := HA.out.at (j := 0) (by rw [HN.out]; omega)
        rw [HM.out, Nat.add_zero] at hx
        go_wp2_with fail
        refine (unit_mx m _ c1 c16).mono ?_
        rintro e w_6 ⟨vv, rfl, hV, hB⟩
        clear hx
        have HA := hid_of ((HA.out.below hB).mono hB.size)
        have HB := hid_of ((HB.out.below hB).mono hB.size)
        have HC := hid_of ((HC.out.below hB).mono hB.size)
        have HP := hid_of ((HP.out.below hB).mono hB.size)
        have HQ := hid_of ((HQ.out.below hB).mono hB.size)
        have HU := hid_of ((HU.out.below hB).mono hB.size)
        have BB := hid_of (BB.out.trans (hB.mono BB.out.size))
        have HV := hid_of hV
        clear hB hV
        go_wp2_with fail
        refine (mmul_all _ _ _ A _ HU.out HA.out 0 U1.out).mono ?_
        rintro e w_7 ⟨vx, rfl, hX, hB⟩
        rw [U2.out] at hX
        have HA := hid_of ((HA.out.below hB).mono hB.size)
        have HB := hid_of ((HB.out.below hB).mono hB.size)
        have HC := hid_of ((HC.out.below hB).mono hB.size)
        have HP := hid_of ((HP.out.below hB).mono hB.size)
        have HQ := hid_of ((HQ.out.below hB).mono hB.size)
        have HU := hid_of ((HU.out.below hB).mono hB.size)
        have HV := hid_of ((HV.out.below hB).mono hB.size)
        have BB := hid_of (BB.out.trans (hB.mono BB.out.size))
        have HX := hid_of hX
        clear hB hX
        go_wp2_with fail
        refine (mmul_all _ _ A _ _ HA.out HV.out 0 U3.out).mono ?_
        rintro e w_8 ⟨vy, rfl, hY, hB⟩
        rw [U4.out] at hY
        have HA := hid_of ((HA.out.below hB).mono hB.size)
        have HB := hid_of ((HB.out.below hB).mono hB.size)
        have HC := hid_of ((HC.out.below hB).mono hB.size)
        have HP := hid_of ((HP.out.below hB).mono hB.size)
        have HQ := hid_of ((HQ.out.below hB).mono hB.size)
        have HU := hid_of ((HU.out.below hB).mono hB.size)
        have HV := hid_of ((HV.out.below hB).mono hB.size)
        have HX := hid_of ((HX.out.below hB).mono hB.size)
        have BB := hid_of (BB.out.trans (hB.mono BB.out.size))
        have HY := hid_of hY
        clear hB hY
        go_wp2_with fail
        refine (sameM_any _ _ A A _ _ HX.out HA.out (Nat.le_refl _)).mono ?_
        rintro e w_9 ⟨rfl, hB⟩
        rw [decide_eq_true rfl]
        have HA := hid_of ((HA.out.below hB).mono hB.size)
        have HB := hid_of ((HB.out.below hB).mono hB.size)
        have HC := hid_of ((HC.out.below hB).mono hB.size)
        have HP := hid_of ((HP.out.below hB).mono hB.size)
        have HQ := hid_of ((HQ.out.below hB).mono hB.size)
        have HU := hid_of ((HU.out.below hB).mono hB.size)
        have HV := hid_of ((HV.out.below hB).mono hB.size)
        have HX := hid_of ((HX.out.below hB).mono hB.size)
        have HY := hid_of ((HY.out.below hB).mono hB.size)
        have BB := hid_of (BB.out.trans (hB.mono BB.out.size))
        clear hB
        go_wp2_with fail
        refine (sameM_any _ _ A A _ _ HY.out HA.out (Nat.le_refl _)).mono ?_
        rintro e w_10 ⟨rfl, hB⟩
        rw [decide_eq_true rfl]
        have HA := hid_of ((HA.out.below hB).mono hB.size)
        have HB := hid_of ((HB.out.below hB).mono hB.size)
        have HC := hid_of ((HC.out.below hB).mono hB.size)
        have HP := hid_of ((HP.out.below hB).mono hB.size)
        have HQ := hid_of ((HQ.out.below hB).mono hB.size)
        have HU := hid_of ((HU.out.below hB).mono hB.size)
        have HV := hid_of ((HV.out.below hB).mono hB.size)
        have HX := hid_of ((HX.out.below hB).mono hB.size)
        have HY := hid_of ((HY.out.below hB).mono hB.size)
        have BB := hid_of (BB.out.trans (hB.mono BB.out.size))
        clear hB
        go_wp2_with fail
        go_ret
        exact ⟨rfl, BB.out⟩
      · have z9 : ((ec : Int) != 0) = true := by rw [bne_iff_ne]; omega
        go_wp2_with fail
        refine (check_any _ A _ _ HA.out).mono ?_
        rintro e w_4 ⟨rfl, hw⟩
        subst hw
        rw [EC.out]
        go_wp2_with fail
        go_ret
        exact ⟨rfl, BB.out⟩
  · have z7 : ((ea : Int) == 0) = false := by rw [beq_eq_false_iff_ne]; omega
    by_cases c : ec = 0
    · subst c
      have R0 := hid_of (chk_rect EC.out)
      obtain ⟨u1, u2, u3, u4⟩ := HUN.out _ _ R0.out
      have n1 := R0.out.n1
      have n16 := R0.out.n16
      have c1 := R0.out.c1
      have c16 := R0.out.c16
      obtain ⟨a0, ca, hva⟩ := HA.out.shape
      subst hva
      obtain ⟨n, hn⟩ : ∃ n, A.length = n := ⟨_, rfl⟩
      obtain ⟨m, hm⟩ : ∃ n, (A[0]?.getD []).length = n := ⟨_, rfl⟩
      rw [hn] at u1 u2 n1 n16 HA ⊢
      rw [hm] at u3 u4 c1 c16
      have HN := hid_of hn
      have HM := hid_of hm
      have U1 := hid_of u1
      have U2 := hid_of u2
      have U3 := hid_of u3
      have U4 := hid_of u4
      clear u1 u2 u3 u4 hn hm
      go_wp2_with fail
      refine (check_any _ A _ _ HA.out).mono ?_
      rintro e w_4 ⟨rfl, hw⟩
      subst hw
      rw [EC.out]
      go_wp2_with fail
      refine (unit_mx n _ n1 n16).mono ?_
      rintro e w_5 ⟨vu, rfl, hU, hB⟩
      have HA := hid_of ((HA.out.below hB).mono hB.size)
      have HB := hid_of ((HB.out.below hB).mono hB.size)
      have HC := hid_of ((HC.out.below hB).mono hB.size)
      have HP := hid_of ((HP.out.below hB).mono hB.size)
      have HQ := hid_of ((HQ.out.below hB).mono hB.size)
      have BB := hid_of (BB.out.trans (hB.mono BB.out.size))
      have HU := hid_of hU
      clear hB hU
      obtain ⟨b1, o1, r1, k1, rfl, hx, _⟩ := HA.out.at (j := 0) (by rw [HN.out]; omega)
      rw [HM.out, Nat.add_zero] at hx
      go_wp2_with fail
      refine (unit_mx m _ c1 c16).mono ?_
      rintro e w_6 ⟨vv, rfl, hV, hB⟩
      clear hx
      have HA := hid_of ((HA.out.below hB).mono hB.size)
      have HB := hid_of ((HB.out.below hB).mono hB.size)
      have HC := hid_of ((HC.out.below hB).mono hB.size)
      have HP := hid_of ((HP.out.below hB).mono hB.size)
      have HQ := hid_of ((HQ.out.below hB).mono hB.size)
      have HU := hid_of ((HU.out.below hB).mono hB.size)
      have BB := hid_of (BB.out.trans (hB.mono BB.out.size))
      have HV := hid_of hV
      clear hB hV
      go_wp2_with fail
      refine (mmul_all _ _ _ A _ HU.out HA.out 0 U1.out).mono ?_
      rintro e w_7 ⟨vx, rfl, hX, hB⟩
      rw [U2.out] at hX
      have HA := hid_of ((HA.out.below hB).mono hB.size)
      have HB := hid_of ((HB.out.below hB).mono hB.size)
      have HC := hid_of ((HC.out.below hB).mono hB.size)
      have HP := hid_of ((HP.out.below hB).mono hB.size)
      have HQ := hid_of ((HQ.out.below hB).mono hB.size)
      have HU := hid_of ((HU.out.below hB).mono hB.size)
      have HV := hid_of ((HV.out.below hB).mono hB.size)
      have BB := hid_of (BB.out.trans (hB.mono BB.out.size))
      have HX := hid_of hX
      clear hB hX
      go_wp2_with fail
      refine (mmul_all _ _ A _ _ HA.out HV.out 0 U3.out).mono ?_
      rintro e w_8 ⟨vy, rfl, hY, hB⟩
      rw [U4.out] at hY
      have HA := hid_of ((HA.out.below hB).mono hB.size)
      have HB := hid_of ((HB.out.below hB).mono hB.size)
      have HC := hid_of ((HC.out.below hB).mono hB.size)
      have HP := hid_of ((HP.out.below hB).mono hB.size)
      have HQ := hid_of ((HQ.out.below hB).mono hB.size)
      have HU := hid_of ((HU.out.below hB).mono hB.size)
      have HV := hid_of ((HV.out.below hB).mono hB.size)
      have HX := hid_of ((HX.out.below hB).mono hB.size)
      have BB := hid_of (BB.out.trans (hB.mono BB.out.size))
      have HY := hid_of hY
      clear hB hY
      go_wp2_with fail
      refine (sameM_any _ _ A A _ _ HX.out HA.out (Nat.le_refl _)).mono ?_
      rintro e w_9 ⟨rfl, hB⟩
      rw [decide_eq_true rfl]
      have HA := hid_of ((HA.out.below hB).mono hB.size)
      have HB := hid_of ((HB.out.below hB).mono hB.size)
      have HC := hid_of ((HC.out.below hB).mono hB.size)
      have HP := hid_of ((HP.out.below hB).mono hB.size)
      have HQ := hid_of ((HQ.out.below hB).mono hB.size)
      have HU := hid_of ((HU.out.below hB).mono hB.size)
      have HV := hid_of ((HV.out.below hB).mono hB.size)
      have HX := hid_of ((HX.out.below hB).mono hB.size)
      have HY := hid_of ((HY.out.below hB).mono hB.size)
      have BB := hid_of (BB.out.trans (hB.mono BB.out.size))
      clear hB
      go_wp2_with fail
      refine (sameM_any _ _ A A _ _ HY.out HA.out (Nat.le_refl _)).mono ?_
      rintro e w_10 ⟨rfl, hB⟩
      rw [decide_eq_true rfl]
      have HA := hid_of ((HA.out.below hB).mono hB.size)
      have HB := hid_of ((HB.out.below hB).mono hB.size)
      have HC := hid_of ((HC.out.below hB).mono hB.size)
      have HP := hid_of ((HP.out.below hB).mono hB.size)
      have HQ := hid_of ((HQ.out.below hB).mono hB.size)
      have HU := hid_of ((HU.out.below hB).mono hB.size)
      have HV := hid_of ((HV.out.below hB).mono hB.size)
      have HX := hid_of ((HX.out.below hB).mono hB.size)
      have HY := hid_of ((HY.out.below hB).mono hB.size)
      have BB := hid_of (BB.out.trans (hB.mono BB.out.size))
      clear hB
      go_wp2_with fail
      go_ret
      exact ⟨rfl, BB.out⟩
    · have z9 : ((ec : Int) != 0) = true := by rw [bne_iff_ne]; omega
      go_wp2_with fail
      refine (check_any _ A _ _ HA.out).mono ?_
      rintro e w_4 ⟨rfl, hw⟩
      subst hw
      rw [EC.out]
      go_wp2_with fail
      go_ret
      exact ⟨rfl, BB.out⟩

set_option maxRecDepth 100000 in
theorem lifted (os : Os) (started : os.Started) (H : Type) (enc : TypeId × Value → H) :
    ReturnsInHanded {} Try.checked os 5 .any (Rows.matrixRingSpec.pre6 enc Try.prog Try.f5 Rows.matrixRingRow.domain false) (Rows.matrixRingSpec.post enc Try.prog Try.f5 false true false false) := by
  refine returnsInHanded_of_change_sized (C := Try.checked) own started (by kernel_rfl) Try.func5
    (ChangeSpec.witness6 (enc := enc) (C := Try.checked) false ⟨#[], #[.slice none 0 0, .slice none 0 0, .slice none 0 0], []⟩ 8 (by kernel_rfl) (by kernel_rfl) (by kernel_rfl) (by kernel_rfl)) ?_
  intro W base args ds gs before hval0 hW hcnd hsz0 _
  have hsz : (DataW.weightsEach Try.prog (Try.f5.params.toList ++ Rows.matrixRingSpec.plain.varTypes Try.prog) (ds ++ gs)).all (· ≤ reachBytes) = true := hsz0
  clear hsz0
  have hval : ∀ (j : Nat) t v, Try.f5.params[j]? = some t → args[j]? = some v → Value.okWide Try.prog W .any base t v := hval0
  have hW' := hW
  obtain ⟨p, q, hA0, hV, rfl, hfz, hnd⟩ := hW
  have hA : DataW.TrodAll enc Try.prog W 0 (fun _ => true) true Try.f5.params.toList args.toList ds p := hA0
  rw [Try.params5] at hA hval hsz
  obtain ⟨v0, vs0, d0, ds0, p0, q0, hargs, rfl, rfl, h0, r0⟩ := trodAll_cons hA
  obtain ⟨v1, vs1, d1, ds1, p1, q1, rfl, rfl, rfl, h1, r1⟩ := trodAll_cons r0
  obtain ⟨v2, vs2, d2, ds2, p2, q2, rfl, rfl, rfl, h2, r2⟩ := trodAll_cons r1
  obtain ⟨rfl, rfl, rfl⟩ := trodAll_nil r2
  obtain rfl : args = #[v0, v1, v2] := by cases args; simp_all
  obtain ⟨rfl, rfl⟩ := trodVars_none hV
  obtain ⟨a0, len0, cap0, rfl⟩ := okWide_slice Try.underlying22 (hval 0 22 v0 rfl rfl)
  have k0 := h0
  have lt0 : ∀ x ∈ p0, x.block < W.heap.size := by obtain ⟨m, hm⟩ := k0; exact DataW.trod_lt m _ _ _ hm
  obtain ⟨A0, w0⟩ : ∃ A, Mx W.heap.size W (.slice a0 len0 cap0) A := by
    obtain ⟨fuel, hf⟩ := h0
    exact arg_mx hf hsz (j := 0) rfl rfl
  obtain ⟨a1, len1, cap1, rfl⟩ := okWide_slice Try.underlying22 (hval 1 22 v1 rfl rfl)
  have k1 := h1
  have lt1 : ∀ x ∈ p1, x.block < W.heap.size := by obtain ⟨m, hm⟩ := k1; exact DataW.trod_lt m _ _ _ hm
  obtain ⟨A1, w1⟩ : ∃ A, Mx W.heap.size W (.slice a1 len1 cap1) A := by
    obtain ⟨fuel, hf⟩ := h1
    exact arg_mx hf hsz (j := 1) rfl rfl
  obtain ⟨a2, len2, cap2, rfl⟩ := okWide_slice Try.underlying22 (hval 2 22 v2 rfl rfl)
  have k2 := h2
  have lt2 : ∀ x ∈ p2, x.block < W.heap.size := by obtain ⟨m, hm⟩ := k2; exact DataW.trod_lt m _ _ _ hm
  obtain ⟨A2, w2⟩ : ∃ A, Mx W.heap.size W (.slice a2 len2 cap2) A := by
    obtain ⟨fuel, hf⟩ := h2
    exact arg_mx hf hsz (j := 2) rfl rfl
  clear hA0 hval0
  refine (walk _ A0 _ A1 _ A2 W w0 w1 w2).mono fun e W' ⟨he, bel⟩ => ?_
  subst he
  exact ⟨_, rfl, _, _, _, [], _, [], hW', trodAll_mk1 (shut_bool Try.underlying4 _), (trodAll_cons_mk (Below.trod laidOut (by kernel_rfl) (of_decide_eq_true (by kernel_rfl)) k0 bel lt0) (trodAll_cons_mk (Below.trod laidOut (by kernel_rfl) (of_decide_eq_true (by kernel_rfl)) k1 bel lt1) (trodAll_cons_mk (Below.trod laidOut (by kernel_rfl) (of_decide_eq_true (by kernel_rfl)) k2 bel lt2) trodAll_mk0))), rfl, bel.frame _, fun h => by cases h⟩

theorem over : Rows.matrixRingRow.holds Try.pinned (OpenSpec.ofChange Rows.matrixRingSpec) :=
  OpenClaim.holds_of_wide 5 Try.f5 rfl rfl rfl rfl rfl rfl rfl ⟨rfl, rfl, rfl, rfl, rfl⟩ rfl rfl rfl rfl rfl (by kernel_rfl) Try.func5 (by kernel_rfl)
    (of_decide_eq_true (by kernel_rfl)) (by unfold Func.isWrapper; first | (rw [if_pos (by decide +kernel)]; kernel_rfl) | (rw [if_neg (by decide +kernel)]; exact ⟨rfl, rfl⟩))
    (fun os started H enc _ => lifted os started H enc)

/-- ████ THE STATEMENT ████ -/
theorem proved : Rows.MatrixRingSaid := over
#print axioms proved
end Go.Proofs.Ytjpibfnkchbglaa.matrixRing
