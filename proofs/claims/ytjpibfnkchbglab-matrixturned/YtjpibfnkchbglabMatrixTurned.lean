/- For every two lists of lists of bytes MatrixTurned answers true, and nothing that was handed in is changed. -/
import Derived.Test.YtjpibfnkchbglabRows
import Derived.Test.YtjpibfnkchbglabBegun
import Derived.Test.YtjpibfnkchbglabTurn2
import Derived.Test.YtjpibfnkchbglabArg
import Derived.WalkKit
import Derived.ProofKit
import Derived.OpenShut
import Derived.ShutString
import Derived.ChangeOld
import Derived.Below
import Derived.SizedLaws
namespace Go.Proofs.Ytjpibfnkchbglab.matrixTurned
open Go.ChangeShapes Go.WideShapes Go.ChangeAt Go.RowKit
open Go.ChangeMaps (open_string shut_string)
set_option linter.unusedVariables false

theorem own : ownKnob Try.prog.godebug = none := by kernel_rfl
theorem laidOut : laidOutB Try.prog = true := by kernel_rfl

set_option maxRecDepth 100000 in
set_option maxHeartbeats 16000000 in
theorem walk (v0 : Value) (A : List (List Nat)) (v1 : Value) (B : List (List Nat)) (w : World) (h0 : Mx w.heap.size w v0 A) (h1 : Mx w.heap.size w v1 B) :
    Calls Try.prog 4 #[v0, v1] w fun e w' => e = .returned (.bool true) ∧ Below w.heap.size w w' := by
  have HA := hid_of h0
  have HB := hid_of h1
  have bA := hid_of (show Bym A from h0.lt)
  have bB := hid_of (show Bym B from h1.lt)
  obtain ⟨em, hem⟩ : ∃ n, mme A B = n := ⟨_, rfl⟩
  obtain ⟨ei, hei⟩ : ∃ n, ive A = n := ⟨_, rfl⟩
  have EM := hid_of hem
  have EI := hid_of hei
  have BB := hid_of (Below.refl w.heap.size w)
  clear h0 h1 hem hei
  go_enter Try.func4, Try.ntmps4
  go_wp2_with fail
  refine (begun_any _).mono ?_
  rintro e w_1 ⟨rfl, hB⟩
  have HA := hid_of ((HA.out.below hB).mono hB.size)
  have HB := hid_of ((HB.out.below hB).mono hB.size)
  have BB := hid_of (BB.out.trans (hB.mono BB.out.size))
  clear hB
  go_wp2_with fail
  refine (mmul_all _ _ A B _ HA.out HB.out em EM.out).mono ?_
  rintro e w_2 ⟨vp, rfl, hP, hB⟩
  have HA := hid_of ((HA.out.below hB).mono hB.size)
  have HB := hid_of ((HB.out.below hB).mono hB.size)
  have BB := hid_of (BB.out.trans (hB.mono BB.out.size))
  have HP := hid_of hP
  clear hB hP
  by_cases cm : em = 0
  · subst cm
    obtain ⟨rA, rB⟩ := mme_zero EM.out
    obtain ⟨_, e2⟩ := mme_of rA rB
    obtain ⟨w1, w2⟩ := turned_mul bA.out bB.out rA rB
    have rP := tab_rect (pf A B B.length) rA.n1 rA.n16 rB.c1 rB.c16
    rw [e2] at HP
    have RA := hid_of rA
    have RB := hid_of rB
    have RP := hid_of rP
    have W1 := hid_of w1
    have W2 := hid_of w2
    clear rA rB rP w1 w2 e2
    go_wp2_with fail
    refine (turn_ok _ B _ _ _ HB.out RB.out).mono ?_
    rintro e w_3 ⟨vb, rfl, hT, hB⟩
    have HA := hid_of ((HA.out.below hB).mono hB.size)
    have HB := hid_of ((HB.out.below hB).mono hB.size)
    have HP := hid_of ((HP.out.below hB).mono hB.size)
    have BB := hid_of (BB.out.trans (hB.mono BB.out.size))
    have HTB := hid_of hT
    clear hB hT
    go_wp2_with fail
    refine (turn_ok _ A _ _ _ HA.out RA.out).mono ?_
    rintro e w_4 ⟨va, rfl, hT, hB⟩
    have HA := hid_of ((HA.out.below hB).mono hB.size)
    have HB := hid_of ((HB.out.below hB).mono hB.size)
    have HP := hid_of ((HP.out.below hB).mono hB.size)
    have HTB := hid_of ((HTB.out.below hB).mono hB.size)
    have BB := hid_of (BB.out.trans (hB.mono BB.out.size))
    have HTA := hid_of hT
    clear hB hT
    go_wp2_with fail
    refine (mmul_all _ _ _ _ _ HTB.out HTA.out 0 W1.out).mono ?_
    rintro e w_5 ⟨vq, rfl, hQ, hB⟩
    rw [W2.out] at hQ
    have HA := hid_of ((HA.out.below hB).mono hB.size)
    have HB := hid_of ((HB.out.below hB).mono hB.size)
    have HP := hid_of ((HP.out.below hB).mono hB.size)
    have HTB := hid_of ((HTB.out.below hB).mono hB.size)
    have HTA := hid_of ((HTA.out.below hB).mono hB.size)
    have BB := hid_of (BB.out.trans (hB.mono BB.out.size))
    have HQ := hid_of hQ
    clear hB hQ
    go_wp2_with fail
    refine (turn_ok _ _ _ _ _ HP.out RP.out).mono ?_
    rintro e w_6 ⟨vr, rfl, hT, hB⟩
    have HA := hid_of ((HA.out.below hB).mono hB.size)
    have HB := hid_of ((HB.out.below hB).mono hB.size)
    have HP := hid_of ((HP.out.below hB).mono hB.size)
    have HTB := hid_of ((HTB.out.below hB).mono hB.size)
    have HTA := hid_of ((HTA.out.below hB).mono hB.size)
    have HQ := hid_of ((HQ.out.below hB).mono hB.size)
    have BB := hid_of (BB.out.trans (hB.mono BB.out.size))
    have HTP := hid_of hT
    clear hB hT
    go_wp2_with fail
    refine (sameM_any _ _ _ _ _ _ HQ.out HTP.out (Nat.le_refl _)).mono ?_
    rintro e w_7 ⟨rfl, hB⟩
    rw [decide_eq_true rfl]
    have HA := hid_of ((HA.out.below hB).mono hB.size)
    have HB := hid_of ((HB.out.below hB).mono hB.size)
    have HP := hid_of ((HP.out.below hB).mono hB.size)
    have HTB := hid_of ((HTB.out.below hB).mono hB.size)
    have HTA := hid_of ((HTA.out.below hB).mono hB.size)
    have HQ := hid_of ((HQ.out.below hB).mono hB.size)
    have HTP := hid_of ((HTP.out.below hB).mono hB.size)
    have BB := hid_of (BB.out.trans (hB.mono BB.out.size))
    clear hB
    by_cases ci : ei = 0
    · subst ci
      have RI := hid_of (ive_zero EI.out).1
      obtain ⟨u1, u2, u3⟩ := turned_inv bA.out RI.out EI.out
      obtain ⟨n, hn⟩ : ∃ n, A.length = n := ⟨_, rfl⟩
      rw [hn] at RI u1 u2 u3
      have U1 := hid_of u1
      have U2 := hid_of u2
      have U3 := hid_of u3
      have RJ := hid_of (tab_rect (iv A n) RI.out.n1 RI.out.n16 RI.out.n1 RI.out.n16)
      clear u1 u2 u3 hn
      go_wp2_with fail
      refine (inverse_all _ A _ HA.out 0 EI.out).mono ?_
      rintro e w_8 ⟨vi, rfl, hI, hB⟩
      rw [U2.out] at hI
      have HA := hid_of ((HA.out.below hB).mono hB.size)
      have HB := hid_of ((HB.out.below hB).mono hB.size)
      have HP := hid_of ((HP.out.below hB).mono hB.size)
      have HTB := hid_of ((HTB.out.below hB).mono hB.size)
      have HTA := hid_of ((HTA.out.below hB).mono hB.size)
      have HQ := hid_of ((HQ.out.below hB).mono hB.size)
      have HTP := hid_of ((HTP.out.below hB).mono hB.size)
      have BB := hid_of (BB.out.trans (hB.mono BB.out.size))
      have HI := hid_of hI
      clear hB hI
      go_wp2_with fail
      refine (turn_ok _ A n n _ HA.out RI.out).mono ?_
      rintro e w_9 ⟨vt, rfl, hT, hB⟩
      have HA := hid_of ((HA.out.below hB).mono hB.size)
      have HB := hid_of ((HB.out.below hB).mono hB.size)
      have HP := hid_of ((HP.out.below hB).mono hB.size)
      have HTB := hid_of ((HTB.out.below hB).mono hB.size)
      have HTA := hid_of ((HTA.out.below hB).mono hB.size)
      have HQ := hid_of ((HQ.out.below hB).mono hB.size)
      have HTP := hid_of ((HTP.out.below hB).mono hB.size)
      have HI := hid_of ((HI.out.below hB).mono hB.size)
      have BB := hid_of (BB.out.trans (hB.mono BB.out.size))
      have HT := hid_of hT
      clear hB hT
      go_wp2_with fail
      refine (inverse_all _ _ _ HT.out 0 U1.out).mono ?_
      rintro e w_10 ⟨vk, rfl, hK, hB⟩
      rw [U3.out] at hK
      have HA := hid_of ((HA.out.below hB).mono hB.size)
      have HB := hid_of ((HB.out.below hB).mono hB.size)
      have HP := hid_of ((HP.out.below hB).mono hB.size)
      have HTB := hid_of ((HTB.out.below hB).mono hB.size)
      have HTA := hid_of ((HTA.out.below hB).mono hB.size)
      have HQ := hid_of ((HQ.out.below hB).mono hB.size)
      have HTP := hid_of ((HTP.out.below hB).mono hB.size)
      have HI := hid_of ((HI.out.below hB).mono hB.size)
      have HT := hid_of ((HT.out.below hB).mono hB.size)
      have BB := hid_of (BB.out.trans (hB.mono BB.out.size))
      have HK := hid_of hK
      clear hB hK
      go_wp2_with fail
      refine (turn_ok _ _ n n _ HI.out RJ.out).mono ?_
      rintro e w_11 ⟨vj, rfl, hJ, hB⟩
      have HA := hid_of ((HA.out.below hB).mono hB.size)
      have HB := hid_of ((HB.out.below hB).mono hB.size)
      have HP := hid_of ((HP.out.below hB).mono hB.size)
      have HTB := hid_of ((HTB.out.below hB).mono hB.size)
      have HTA := hid_of ((HTA.out.below hB).mono hB.size)
      have HQ := hid_of ((HQ.out.below hB).mono hB.size)
      have HTP := hid_of ((HTP.out.below hB).mono hB.size)
      have HI := hid_of ((HI.out.below hB).mono hB.size)
      have HT := hid_of ((HT.out.below hB).mono hB.size)
      have HK := hid_of ((HK.out.below hB).mono hB.size)
      have BB := hid_of (BB.out.trans (hB.mono BB.out.size))
      have HJ := hid_of hJ
      clear hB hJ
      go_wp2_with fail
      refine (sameM_any _ _ _ _ _ _ HK.out HJ.out (Nat.le_refl _)).mono ?_
      rintro e w_12 ⟨rfl, hB⟩
      rw [decide_eq_true rfl]
      have HA := hid_of ((HA.out.below hB).mono hB.size)
      have HB := hid_of ((HB.out.below hB).mono hB.size)
      have HP := hid_of ((HP.out.below hB).mono hB.size)
      have HTB := hid_of ((HTB.out.below hB).mono hB.size)
      have HTA := hid_of ((HTA.out.below hB).mono hB.size)
      have HQ := hid_of ((HQ.out.below hB).mono hB.size)
      have HTP := hid_of ((HTP.out.below hB).mono hB.size)
      have HI := hid_of ((HI.out.below hB).mono hB.size)
      have HT := hid_of ((HT.out.below hB).mono hB.size)
      have HK := hid_of ((HK.out.below hB).mono hB.size)
      have HJ := hid_of ((HJ.out.below hB).mono hB.size)
      have BB := hid_of (BB.out.trans (hB.mono BB.out.size))
      clear hB
      go_wp2_with fail
      go_ret
      exact ⟨rfl, BB.out⟩
    · have z9 : ((ei : Int) != 0) = true := by rw [bne_iff_ne]; omega
      have hm : ivm A = [] := by unfold ivm; rw [if_pos (by rw [EI.out]; exact ci)]
      have HM := hid_of hm
      clear hm
      go_wp2_with fail
      refine (inverse_all _ A _ HA.out ei EI.out).mono ?_
      rintro e w_8 ⟨vi, rfl, hI, hB⟩
      rw [HM.out] at hI
      obtain ⟨ai, ci2, hsh⟩ := hI.shape
      subst hsh
      clear hI
      have HA := hid_of ((HA.out.below hB).mono hB.size)
      have HB := hid_of ((HB.out.below hB).mono hB.size)
      have HP := hid_of ((HP.out.below hB).mono hB.size)
      have HTB := hid_of ((HTB.out.below hB).mono hB.size)
      have HTA := hid_of ((HTA.out.below hB).mono hB.size)
      have HQ := hid_of ((HQ.out.below hB).mono hB.size)
      have HTP := hid_of ((HTP.out.below hB).mono hB.size)
      have BB := hid_of (BB.out.trans (hB.mono BB.out.size))
      clear hB
      go_wp2_with fail
      go_ret
      exact ⟨rfl, BB.out⟩
  · have z8 : ((em : Int) == 0) = false := by rw [beq_eq_false_iff_ne]; omega
    by_cases ci : ei = 0
    · subst ci
      have RI := hid_of (ive_zero EI.out).1
      obtain ⟨u1, u2, u3⟩ := turned_inv bA.out RI.out EI.out
      obtain ⟨n, hn⟩ : ∃ n, A.length = n := ⟨_, rfl⟩
      rw [hn] at RI u1 u2 u3
      have U1 := hid_of u1
      have U2 := hid_of u2
      have U3 := hid_of u3
      have RJ := hid_of (tab_rect (iv A n) RI.out.n1 RI.out.n16 RI.out.n1 RI.out.n16)
      clear u1 u2 u3 hn
      go_wp2_with fail
      refine (inverse_all _ A _ HA.out 0 EI.out).mono ?_
      rintro e w_3 ⟨vi, rfl, hI, hB⟩
      rw [U2.out] at hI
      have HA := hid_of ((HA.out.below hB).mono hB.size)
      have HB := hid_of ((HB.out.below hB).mono hB.size)
      have HP := hid_of ((HP.out.below hB).mono hB.size)
      have BB := hid_of (BB.out.trans (hB.mono BB.out.size))
      have HI := hid_of hI
      clear hB hI
      go_wp2_with fail
      refine (turn_ok _ A n n _ HA.out RI.out).mono ?_
      rintro e w_4 ⟨vt, rfl, hT, hB⟩
      have HA := hid_of ((HA.out.below hB).mono hB.size)
      have HB := hid_of ((HB.out.below hB).mono hB.size)
      have HP := hid_of ((HP.out.below hB).mono hB.size)
      have HI := hid_of ((HI.out.below hB).mono hB.size)
      have BB := hid_of (BB.out.trans (hB.mono BB.out.size))
      have HT := hid_of hT
      clear hB hT
      go_wp2_with fail
      refine (inverse_all _ _ _ HT.out 0 U1.out).mono ?_
      rintro e w_5 ⟨vk, rfl, hK, hB⟩
      rw [U3.out] at hK
      have HA := hid_of ((HA.out.below hB).mono hB.size)
      have HB := hid_of ((HB.out.below hB).mono hB.size)
      have HP := hid_of ((HP.out.below hB).mono hB.size)
      have HI := hid_of ((HI.out.below hB).mono hB.size)
      have HT := hid_of ((HT.out.below hB).mono hB.size)
      have BB := hid_of (BB.out.trans (hB.mono BB.out.size))
      have HK := hid_of hK
      clear hB hK
      go_wp2_with fail
      refine (turn_ok _ _ n n _ HI.out RJ.out).mono ?_
      rintro e w_6 ⟨vj, rfl, hJ, hB⟩
      have HA := hid_of ((HA.out.below hB).mono hB.size)
      have HB := hid_of ((HB.out.below hB).mono hB.size)
      have HP := hid_of ((HP.out.below hB).mono hB.size)
      have HI := hid_of ((HI.out.below hB).mono hB.size)
      have HT := hid_of ((HT.out.below hB).mono hB.size)
      have HK := hid_of ((HK.out.below hB).mono hB.size)
      have BB := hid_of (BB.out.trans (hB.mono BB.out.size))
      have HJ := hid_of hJ
      clear hB hJ
      go_wp2_with fail
      refine (sameM_any _ _ _ _ _ _ HK.out HJ.out (Nat.le_refl _)).mono ?_
      rintro e w_7 ⟨rfl, hB⟩
      rw [decide_eq_true rfl]
      have HA := hid_of ((HA.out.below hB).mono hB.size)
      have HB := hid_of ((HB.out.below hB).mono hB.size)
      have HP := hid_of ((HP.out.below hB).mono hB.size)
      have HI := hid_of ((HI.out.below hB).mono hB.size)
      have HT := hid_of ((HT.out.below hB).mono hB.size)
      have HK := hid_of ((HK.out.below hB).mono hB.size)
      have HJ := hid_of ((HJ.out.below hB).mono hB.size)
      have BB := hid_of (BB.out.trans (hB.mono BB.out.size))
      clear hB
      go_wp2_with fail
      go_ret
      exact ⟨rfl, BB.out⟩
    · have z9 : ((ei : Int) != 0) = true := by rw [bne_iff_ne]; omega
      have hm : ivm A = [] := by unfold ivm; rw [if_pos (by rw [EI.out]; exact ci)]
      have HM := hid_of hm
      clear hm
      go_wp2_with fail
      refine (inverse_all _ A _ HA.out ei EI.out).mono ?_
      rintro e w_3 ⟨vi, rfl, hI, hB⟩
      rw [HM.out] at hI
      obtain ⟨ai, ci2, hsh⟩ := hI.shape
      subst hsh
      clear hI
      have HA := hid_of ((HA.out.below hB).mono hB.size)
      have HB := hid_of ((HB.out.below hB).mono hB.size)
      have HP := hid_of ((HP.out.below hB).mono hB.size)
      have BB := hid_of (BB.out.trans (hB.mono BB.out.size))
      clear hB
      go_wp2_with fail
      go_ret
      exact ⟨rfl, BB.out⟩

set_option maxRecDepth 100000 in
theorem lifted (os : Os) (started : os.Started) (H : Type) (enc : TypeId × Value → H) :
    ReturnsInHanded {} Try.checked os 4 .any (Rows.matrixTurnedSpec.pre6 enc Try.prog Try.f4 Rows.matrixTurnedRow.domain false) (Rows.matrixTurnedSpec.post enc Try.prog Try.f4 false true false false) := by
  refine returnsInHanded_of_change_sized (C := Try.checked) own started (by kernel_rfl) Try.func4
    (ChangeSpec.witness6 (enc := enc) (C := Try.checked) false ⟨#[], #[.slice none 0 0, .slice none 0 0], []⟩ 8 (by kernel_rfl) (by kernel_rfl) (by kernel_rfl) (by kernel_rfl)) ?_
  intro W base args ds gs before hval0 hW hcnd hsz0 _
  have hsz : (DataW.weightsEach Try.prog (Try.f4.params.toList ++ Rows.matrixTurnedSpec.plain.varTypes Try.prog) (ds ++ gs)).all (· ≤ reachBytes) = true := hsz0
  clear hsz0
  have hval : ∀ (j : Nat) t v, Try.f4.params[j]? = some t → args[j]? = some v → Value.okWide Try.prog W .any base t v := hval0
  have hW' := hW
  obtain ⟨p, q, hA0, hV, rfl, hfz, hnd⟩ := hW
  have hA : DataW.TrodAll enc Try.prog W 0 (fun _ => true) true Try.f4.params.toList args.toList ds p := hA0
  rw [Try.params4] at hA hval hsz
  obtain ⟨v0, vs0, d0, ds0, p0, q0, hargs, rfl, rfl, h0, r0⟩ := trodAll_cons hA
  obtain ⟨v1, vs1, d1, ds1, p1, q1, rfl, rfl, rfl, h1, r1⟩ := trodAll_cons r0
  obtain ⟨rfl, rfl, rfl⟩ := trodAll_nil r1
  obtain rfl : args = #[v0, v1] := by cases args; simp_all
  obtain ⟨rfl, rfl⟩ := trodVars_none hV
  obtain ⟨a0, len0, cap0, rfl⟩ := okWide_slice Try.underlying23 (hval 0 23 v0 rfl rfl)
  have k0 := h0
  have lt0 : ∀ x ∈ p0, x.block < W.heap.size := by obtain ⟨m, hm⟩ := k0; exact DataW.trod_lt m _ _ _ hm
  obtain ⟨A0, w0⟩ : ∃ A, Mx W.heap.size W (.slice a0 len0 cap0) A := by
    obtain ⟨fuel, hf⟩ := h0
    exact arg_mx hf hsz (j := 0) rfl rfl
  obtain ⟨a1, len1, cap1, rfl⟩ := okWide_slice Try.underlying23 (hval 1 23 v1 rfl rfl)
  have k1 := h1
  have lt1 : ∀ x ∈ p1, x.block < W.heap.size := by obtain ⟨m, hm⟩ := k1; exact DataW.trod_lt m _ _ _ hm
  obtain ⟨A1, w1⟩ : ∃ A, Mx W.heap.size W (.slice a1 len1 cap1) A := by
    obtain ⟨fuel, hf⟩ := h1
    exact arg_mx hf hsz (j := 1) rfl rfl
  clear hA0 hval0
  refine (walk _ A0 _ A1 W w0 w1).mono fun e W' ⟨he, bel⟩ => ?_
  subst he
  exact ⟨_, rfl, _, _, _, [], _, [], hW', trodAll_mk1 (shut_bool Try.underlying4 _), (trodAll_cons_mk (Below.trod laidOut (by kernel_rfl) (of_decide_eq_true (by kernel_rfl)) k0 bel lt0) (trodAll_cons_mk (Below.trod laidOut (by kernel_rfl) (of_decide_eq_true (by kernel_rfl)) k1 bel lt1) trodAll_mk0)), rfl, bel.frame _, fun h => by cases h⟩

theorem over : Rows.matrixTurnedRow.holds Try.pinned (OpenSpec.ofChange Rows.matrixTurnedSpec) :=
  OpenClaim.holds_of_wide 4 Try.f4 rfl rfl rfl rfl rfl rfl rfl ⟨rfl, rfl, rfl, rfl, rfl⟩ rfl rfl rfl rfl rfl (by kernel_rfl) Try.func4 (by kernel_rfl)
    (of_decide_eq_true (by kernel_rfl)) (by unfold Func.isWrapper; first | (rw [if_pos (by decide +kernel)]; kernel_rfl) | (rw [if_neg (by decide +kernel)]; exact ⟨rfl, rfl⟩))
    (fun os started H enc _ => lifted os started H enc)

/-- ████ THE STATEMENT ████ -/
theorem proved : Rows.MatrixTurnedSaid := over
#print axioms proved
end Go.Proofs.Ytjpibfnkchbglab.matrixTurned
