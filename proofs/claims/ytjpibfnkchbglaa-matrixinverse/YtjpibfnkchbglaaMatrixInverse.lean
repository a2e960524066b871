/- For every two lists of lists of bytes MatrixInverse answers true, and nothing that was handed in is changed. -/
import Derived.Test.YtjpibfnkchbglaaRows
import Derived.Test.YtjpibfnkchbglaaBegun
import Derived.Test.YtjpibfnkchbglaaInv2
import Derived.Test.YtjpibfnkchbglaaArg
import Derived.WalkKit
import Derived.ProofKit
import Derived.OpenShut
import Derived.ShutString
import Derived.ChangeOld
import Derived.Below
import Derived.SizedLaws
namespace Go.Proofs.Ytjpibfnkchbglaa.matrixInverse
open Go.ChangeShapes Go.WideShapes Go.ChangeAt Go.RowKit
open Go.ChangeMaps (open_string shut_string)
set_option linter.unusedVariables false

theorem own : ownKnob Try.prog.godebug = none := by kernel_rfl
theorem laidOut : laidOutB Try.prog = true := by kernel_rfl

set_option maxRecDepth 100000 in
set_option maxHeartbeats 16000000 in
theorem walk_err (v0 : Value) (A : List (List Nat)) (v1 : Value) (B : List (List Nat)) (w : World) (h0 : Mx w.heap.size w v0 A) (h : ive A ≠ 0) :
    Calls Try.prog 6 #[v0, v1] w fun e w' => e = .returned (.bool true) ∧ Below w.heap.size w w' := by
  have HA := hid_of h0
  obtain ⟨ea, hea⟩ : ∃ n, ive A = n := ⟨_, rfl⟩
  have hm : ivm A = [] := by unfold ivm; rw [if_pos h]
  have HM := hid_of hm
  rw [hea] at h
  have EA := hid_of hea
  have z : ((ea : Int) != 0) = true := by rw [bne_iff_ne]; omega
  have BB := hid_of (Below.refl w.heap.size w)
  clear h0 hea hm h
  go_enter Try.func6, Try.ntmps6
  go_wp2_with fail
  refine (inverse_all _ A _ HA.out ea EA.out).mono ?_
  rintro e w_1 ⟨vi, rfl, hI, hB⟩
  rw [HM.out] at hI
  obtain ⟨ai, ci, hsh⟩ := hI.shape
  subst hsh
  have BB := hid_of (BB.out.trans (hB.mono BB.out.size))
  clear hB hI
  go_wp2_with fail
  refine (begun_any _).mono ?_
  rintro e w_2 ⟨rfl, hB⟩
  have BB := hid_of (BB.out.trans (hB.mono BB.out.size))
  clear hB
  go_wp2_with fail
  go_ret
  exact ⟨rfl, BB.out⟩
set_option maxRecDepth 100000 in
set_option maxHeartbeats 16000000 in
theorem walk_ok (v0 : Value) (A : List (List Nat)) (v1 : Value) (B : List (List Nat)) (w : World) (h0 : Mx w.heap.size w v0 A) (h1 : Mx w.heap.size w v1 B) (h : ive A = 0) :
    Calls Try.prog 6 #[v0, v1] w fun e w' => e = .returned (.bool true) ∧ Below w.heap.size w w' := by
  have HA := hid_of h0
  have HB := hid_of h1
  have bA : Bym A := h0.lt
  have bB : Bym B := h1.lt
  obtain ⟨i1, i2, i3, i4, i5, i6, _, _⟩ := inv_laws bA h
  have r0 := (ive_zero h).1
  have n1 := r0.n1
  have n16 := r0.n16
  have HPR := hid_of (inv_prod bA bB h)
  obtain ⟨a0, ca, hva⟩ := HA.out.shape
  subst hva
  obtain ⟨n, hn⟩ : ∃ n, A.length = n := ⟨_, rfl⟩
  rw [hn] at i2 i4 n1 n16 HA ⊢
  have I1 := hid_of i1
  have I2 := hid_of i2
  have I3 := hid_of i3
  have I4 := hid_of i4
  have I5 := hid_of i5
  have I6 := hid_of i6
  have E0 := hid_of h
  obtain ⟨eb, heb⟩ : ∃ n, ive B = n := ⟨_, rfl⟩
  obtain ⟨em, hem⟩ : ∃ n, mme A B = n := ⟨_, rfl⟩
  have EB := hid_of heb
  have EM := hid_of hem
  have BB := hid_of (Below.refl w.heap.size w)
  clear h0 h1 bA bB i1 i2 i3 i4 i5 i6 h heb hem hn r0
  go_enter Try.func6, Try.ntmps6
  go_wp2_with fail
  refine (inverse_all _ A _ HA.out 0 E0.out).mono ?_
  rintro e w_1 ⟨vi, rfl, hI, hB⟩
  have HA := hid_of ((HA.out.below hB).mono hB.size)
  have HB := hid_of ((HB.out.below hB).mono hB.size)
  have BB := hid_of (BB.out.trans (hB.mono BB.out.size))
  have HI := hid_of hI
  clear hB hI
  go_wp2_with fail
  refine (begun_any _).mono ?_
  rintro e w_2 ⟨rfl, hB⟩
  have HA := hid_of ((HA.out.below hB).mono hB.size)
  have HB := hid_of ((HB.out.below hB).mono hB.size)
  have HI := hid_of ((HI.out.below hB).mono hB.size)
  have BB := hid_of (BB.out.trans (hB.mono BB.out.size))
  clear hB
  go_wp2_with fail
  refine (unit_mx n _ n1 n16).mono ?_
  rintro e w_3 ⟨vu, rfl, hU, hB⟩
  have HA := hid_of ((HA.out.below hB).mono hB.size)
  have HB := hid_of ((HB.out.below hB).mono hB.size)
  have HI := hid_of ((HI.out.below hB).mono hB.size)
  have BB := hid_of (BB.out.trans (hB.mono BB.out.size))
  have HU := hid_of hU
  clear hB hU
  go_wp2_with fail
  refine (mmul_all _ _ _ A _ HI.out HA.out 0 I1.out).mono ?_
  rintro e w_4 ⟨vx, rfl, hX, hB⟩
  rw [I2.out] at hX
  have HA := hid_of ((HA.out.below hB).mono hB.size)
  have HB := hid_of ((HB.out.below hB).mono hB.size)
  have HI := hid_of ((HI.out.below hB).mono hB.size)
  have HU := hid_of ((HU.out.below hB).mono hB.size)
  have BB := hid_of (BB.out.trans (hB.mono BB.out.size))
  have HX := hid_of hX
  clear hB hX
  go_wp2_with fail
  refine (mmul_all _ _ A _ _ HA.out HI.out 0 I3.out).mono ?_
  rintro e w_5 ⟨vy, rfl, hY, hB⟩
  rw [I4.out] at hY
  have HA := hid_of ((HA.out.below hB).mono hB.size)
  have HB := hid_of ((HB.out.below hB).mono hB.size)
  have HI := hid_of ((HI.out.below hB).mono hB.size)
  have HU := hid_of ((HU.out.below hB).mono hB.size)
  have HX := hid_of ((HX.out.below hB).mono hB.size)
  have BB := hid_of (BB.out.trans (hB.mono BB.out.size))
  have HY := hid_of hY
  clear hB hY
  go_wp2_with fail
  refine (inverse_all _ _ _ HI.out 0 I5.out).mono ?_
  rintro e w_6 ⟨vg, rfl, hG, hB⟩
  rw [I6.out] at hG
  have HA := hid_of ((HA.out.below hB).mono hB.size)
  have HB := hid_of ((HB.out.below hB).mono hB.size)
  have HI := hid_of ((HI.out.below hB).mono hB.size)
  have HU := hid_of ((HU.out.below hB).mono hB.size)
  have HX := hid_of ((HX.out.below hB).mono hB.size)
  have HY := hid_of ((HY.out.below hB).mono hB.size)
  have BB := hid_of (BB.out.trans (hB.mono BB.out.size))
  have HG := hid_of hG
  clear hB hG
  go_wp2_with fail
  refine (sameM_any _ _ _ _ _ _ HX.out HU.out (Nat.le_refl _)).mono ?_
  rintro e w_7 ⟨rfl, hB⟩
  rw [decide_eq_true rfl]
  have HA := hid_of ((HA.out.below hB).mono hB.size)
  have HB := hid_of ((HB.out.below hB).mono hB.size)
  have HI := hid_of ((HI.out.below hB).mono hB.size)
  have HU := hid_of ((HU.out.below hB).mono hB.size)
  have HX := hid_of ((HX.out.below hB).mono hB.size)
  have HY := hid_of ((HY.out.below hB).mono hB.size)
  have HG := hid_of ((HG.out.below hB).mono hB.size)
  have BB := hid_of (BB.out.trans (hB.mono BB.out.size))
  clear hB
  go_wp2_with fail
  refine (sameM_any _ _ _ _ _ _ HY.out HU.out (Nat.le_refl _)).mono ?_
  rintro e w_8 ⟨rfl, hB⟩
  rw [decide_eq_true rfl]
  have HA := hid_of ((HA.out.below hB).mono hB.size)
  have HB := hid_of ((HB.out.below hB).mono hB.size)
  have HI := hid_of ((HI.out.below hB).mono hB.size)
  have HU := hid_of ((HU.out.below hB).mono hB.size)
  have HX := hid_of ((HX.out.below hB).mono hB.size)
  have HY := hid_of ((HY.out.below hB).mono hB.size)
  have HG := hid_of ((HG.out.below hB).mono hB.size)
  have BB := hid_of (BB.out.trans (hB.mono BB.out.size))
  clear hB
  go_wp2_with fail
  refine (sameM_any _ _ A A _ _ HG.out HA.out (Nat.le_refl _)).mono ?_
  rintro e w_9 ⟨rfl, hB⟩
  rw [decide_eq_true rfl]
  have HA := hid_of ((HA.out.below hB).mono hB.size)
  have HB := hid_of ((HB.out.below hB).mono hB.size)
  have HI := hid_of ((HI.out.below hB).mono hB.size)
  have HU := hid_of ((HU.out.below hB).mono hB.size)
  have HX := hid_of ((HX.out.below hB).mono hB.size)
  have HY := hid_of ((HY.out.below hB).mono hB.size)
  have HG := hid_of ((HG.out.below hB).mono hB.size)
  have BB := hid_of (BB.out.trans (hB.mono BB.out.size))
  clear hB
  go_wp2_with fail
  refine (inverse_all _ B _ HB.out eb EB.out).mono ?_
  rintro e w_10 ⟨vk, rfl, hK, hB⟩
  have HA := hid_of ((HA.out.below hB).mono hB.size)
  have HB := hid_of ((HB.out.below hB).mono hB.size)
  have HI := hid_of ((HI.out.below hB).mono hB.size)
  have HU := hid_of ((HU.out.below hB).mono hB.size)
  have HX := hid_of ((HX.out.below hB).mono hB.size)
  have HY := hid_of ((HY.out.below hB).mono hB.size)
  have HG := hid_of ((HG.out.below hB).mono hB.size)
  have BB := hid_of (BB.out.trans (hB.mono BB.out.size))
  have HK := hid_of hK
  clear hB hK
  go_wp2_with fail
  refine (mmul_all _ _ A B _ HA.out HB.out em EM.out).mono ?_
  rintro e w_11 ⟨vp, rfl, hP, hB⟩
  have HA := hid_of ((HA.out.below hB).mono hB.size)
  have HB := hid_of ((HB.out.below hB).mono hB.size)
  have HI := hid_of ((HI.out.below hB).mono hB.size)
  have HU := hid_of ((HU.out.below hB).mono hB.size)
  have HX := hid_of ((HX.out.below hB).mono hB.size)
  have HY := hid_of ((HY.out.below hB).mono hB.size)
  have HG := hid_of ((HG.out.below hB).mono hB.size)
  have HK := hid_of ((HK.out.below hB).mono hB.size)
  have BB := hid_of (BB.out.trans (hB.mono BB.out.size))
  have HP := hid_of hP
  clear hB hP
  by_cases c : eb = 0
  · subst c
    by_cases d : em = 0
    · subst d
      obtain ⟨p1, p2, p3⟩ := HPR.out EB.out EM.out
      have P1 := hid_of p1
      have P2 := hid_of p2
      have P3 := hid_of p3
      clear p1 p2 p3
      go_wp2_with fail
      refine (inverse_all _ _ _ HP.out 0 P1.out).mono ?_
      rintro e w_12 ⟨vq, rfl, hQ, hB⟩
      have HA := hid_of ((HA.out.below hB).mono hB.size)
      have HB := hid_of ((HB.out.below hB).mono hB.size)
      have HI := hid_of ((HI.out.below hB).mono hB.size)
      have HU := hid_of ((HU.out.below hB).mono hB.size)
      have HX := hid_of ((HX.out.below hB).mono hB.size)
      have HY := hid_of ((HY.out.below hB).mono hB.size)
      have HG := hid_of ((HG.out.below hB).mono hB.size)
      have HK := hid_of ((HK.out.below hB).mono hB.size)
      have HP := hid_of ((HP.out.below hB).mono hB.size)
      have BB := hid_of (BB.out.trans (hB.mono BB.out.size))
      have HQ := hid_of hQ
      clear hB hQ
      go_wp2_with fail
      refine (mmul_all _ _ _ _ _ HK.out HI.out 0 P2.out).mono ?_
      rintro e w_13 ⟨vr, rfl, hR, hB⟩
      have HA := hid_of ((HA.out.below hB).mono hB.size)
      have HB := hid_of ((HB.out.below hB).mono hB.size)
      have HI := hid_of ((HI.out.below hB).mono hB.size)
      have HU := hid_of ((HU.out.below hB).mono hB.size)
      have HX := hid_of ((HX.out.below hB).mono hB.size)
      have HY := hid_of ((HY.out.below hB).mono hB.size)
      have HG := hid_of ((HG.out.below hB).mono hB.size)
      have HK := hid_of ((HK.out.below hB).mono hB.size)
      have HP := hid_of ((HP.out.below hB).mono hB.size)
      have HQ := hid_of ((HQ.out.below hB).mono hB.size)
      have BB := hid_of (BB.out.trans (hB.mono BB.out.size))
      have HR := hid_of hR
      clear hB hR
      go_wp2_with fail
      refine (sameM_any _ _ _ _ _ _ HQ.out HR.out (Nat.le_refl _)).mono ?_
      rintro e w_14 ⟨rfl, hB⟩
      rw [decide_eq_true P3.out]
      have HA := hid_of ((HA.out.below hB).mono hB.size)
      have HB := hid_of ((HB.out.below hB).mono hB.size)
      have HI := hid_of ((HI.out.below hB).mono hB.size)
      have HU := hid_of ((HU.out.below hB).mono hB.size)
      have HX := hid_of ((HX.out.below hB).mono hB.size)
      have HY := hid_of ((HY.out.below hB).mono hB.size)
      have HG := hid_of ((HG.out.below hB).mono hB.size)
      have HK := hid_of ((HK.out.below hB).mono hB.size)
      have HP := hid_of ((HP.out.below hB).mono hB.size)
      have HQ := hid_of ((HQ.out.below hB).mono hB.size)
      have HR := hid_of ((HR.out.below hB).mono hB.size)
      have BB := hid_of (BB.out.trans (hB.mono BB.out.size))
      clear hB
      go_wp2_with fail
      go_ret
      exact ⟨rfl, BB.out⟩
    · have z2 : ((em : Int) != 0) = true := by rw [bne_iff_ne]; omega
      go_wp2_with fail
      go_ret
      exact ⟨rfl, BB.out⟩
  · have z1 : ((eb : Int) != 0) = true := by rw [bne_iff_ne]; omega
    go_wp2_with fail
    go_ret
    exact ⟨rfl, BB.out⟩
theorem walk (v0 : Value) (A : List (List Nat)) (v1 : Value) (B : List (List Nat)) (w : World) (h0 : Mx w.heap.size w v0 A) (h1 : Mx w.heap.size w v1 B) :
    Calls Try.prog 6 #[v0, v1] w fun e w' => e = .returned (.bool true) ∧ Below w.heap.size w w' := by
  by_cases h : ive A = 0
  · exact walk_ok v0 A v1 B w h0 h1 h
  · exact walk_err v0 A v1 B w h0 h

set_option maxRecDepth 100000 in
theorem lifted (os : Os) (started : os.Started) (H : Type) (enc : TypeId × Value → H) :
    ReturnsInHanded {} Try.checked os 6 .any (Rows.matrixInverseSpec.pre6 enc Try.prog Try.f6 Rows.matrixInverseRow.domain false) (Rows.matrixInverseSpec.post enc Try.prog Try.f6 false true false false) := by
  refine returnsInHanded_of_change_sized (C := Try.checked) own started (by kernel_rfl) Try.func6
    (ChangeSpec.witness6 (enc := enc) (C := Try.checked) false ⟨#[], #[.slice none 0 0, .slice none 0 0], []⟩ 8 (by kernel_rfl) (by kernel_rfl) (by kernel_rfl) (by kernel_rfl)) ?_
  intro W base args ds gs before hval0 hW hcnd hsz0 _
  have hsz : (DataW.weightsEach Try.prog (Try.f6.params.toList ++ Rows.matrixInverseSpec.plain.varTypes Try.prog) (ds ++ gs)).all (· ≤ reachBytes) = true := hsz0
  clear hsz0
  have hval : ∀ (j : Nat) t v, Try.f6.params[j]? = some t → args[j]? = some v → Value.okWide Try.prog W .any base t v := hval0
  have hW' := hW
  obtain ⟨p, q, hA0, hV, rfl, hfz, hnd⟩ := hW
  have hA : DataW.TrodAll enc Try.prog W 0 (fun _ => true) true Try.f6.params.toList args.toList ds p := hA0
  rw [Try.params6] at hA hval hsz
  obtain ⟨v0, vs0, d0, ds0, p0, q0, hargs, rfl, rfl, h0, r0⟩ := trodAll_cons hA
  obtain ⟨v1, vs1, d1, ds1, p1, q1, rfl, rfl, rfl, h1, r1⟩ := trodAll_cons r0
  obtain ⟨rfl, rfl, rfl⟩ := trodAll_nil r1
  obtain rfl : args = #[v0, v1] := by cases args; simp_all
  obtain ⟨rfl, rfl⟩ := trodVars_none hV
  obtain ⟨a0, len0, cap0, rfl⟩ := okWide_slice Try.underlying22 (hval 0 22 v0 rfl rfl)
  have k0 := h0
  have lt0 : ∀ x ∈ p0, x.block < W.heap.size := by obtain ⟨m, hm⟩ := k0; exact DataW.trod_lt m _ _ _ hm
  obtain ⟨A0, w0⟩ : ∃ A, Mx W.heap.size W (.slice a0 len0 cap0) A := by
    obtain ⟨fuel, hf⟩ := h0
    exact arg_mx hf hsz (j := 0) rfl rfl
  obtain ⟨a1, len1, cap1, rfl⟩ := okWide_slice Try.underlying22 (hval 1 22 v1 rfl rfl)
  have k1 := h1
  have lt1 : ∀ x ∈ p1, x.block < W.heap.size := by obtain ⟨m, hm⟩ := k1; exact DataW.trod_lt m _ _ _ hm
  obtain ⟨A1, w1⟩ : ∃ A, Mx W.heap.size W (.slice a1 len1 cap1) A := by
    obtain ⟨fuel, hf⟩ := h1
    exact arg_mx hf hsz (j := 1) rfl rfl
  clear hA0 hval0
  refine (walk _ A0 _ A1 W w0 w1).mono fun e W' ⟨he, bel⟩ => ?_
  subst he
  exact ⟨_, rfl, _, _, _, [], _, [], hW', trodAll_mk1 (shut_bool Try.underlying4 _), (trodAll_cons_mk (Below.trod laidOut (by kernel_rfl) (of_decide_eq_true (by kernel_rfl)) k0 bel lt0) (trodAll_cons_mk (Below.trod laidOut (by kernel_rfl) (of_decide_eq_true (by kernel_rfl)) k1 bel lt1) trodAll_mk0)), rfl, bel.frame _, fun h => by cases h⟩

theorem over : Rows.matrixInverseRow.holds Try.pinned (OpenSpec.ofChange Rows.matrixInverseSpec) :=
  OpenClaim.holds_of_wide 6 Try.f6 rfl rfl rfl rfl rfl rfl rfl ⟨rfl, rfl, rfl, rfl, rfl⟩ rfl rfl rfl rfl rfl (by kernel_rfl) Try.func6 (by kernel_rfl)
    (of_decide_eq_true (by kernel_rfl)) (by unfold Func.isWrapper; first | (rw [if_pos (by decide +kernel)]; kernel_rfl) | (rw [if_neg (by decide +kernel)]; exact ⟨rfl, rfl⟩))
    (fun os started H enc _ => lifted os started H enc)

/-- ████ THE STATEMENT ████ -/
theorem proved : Rows.MatrixInverseSaid := over
#print axioms proved
end Go.Proofs.Ytjpibfnkchbglaa.matrixInverse
