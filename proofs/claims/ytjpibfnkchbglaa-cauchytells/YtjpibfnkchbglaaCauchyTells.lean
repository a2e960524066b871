/- For every two numbers, every list of lists of bytes and every list of numbers CauchyTells answers true, and nothing that was handed in is changed. -/
import Derived.Test.YtjpibfnkchbglaaRows
import Derived.Test.YtjpibfnkchbglaaBegun
import Derived.Test.YtjpibfnkchbglaaRAll
import Derived.Test.YtjpibfnkchbglaaArg
import Derived.WalkKit
import Derived.ProofKit
import Derived.OpenShut
import Derived.ShutString
import Derived.ChangeOld
import Derived.Below
import Derived.SizedLaws
namespace Go.Proofs.Ytjpibfnkchbglaa.cauchyTells
open Go.ChangeShapes Go.WideShapes Go.ChangeAt Go.RowKit
open Go.ChangeMaps (open_string shut_string)
set_option linter.unusedVariables false

theorem own : ownKnob Try.prog.godebug = none := by kernel_rfl
theorem laidOut : laidOutB Try.prog = true := by kernel_rfl

set_option maxRecDepth 100000 in
set_option maxHeartbeats 16000000 in
theorem walk (r c : Int) (v2 : Value) (A : List (List Nat)) (v3 : Value) (I : List Int) (w : World) (_w0 : (Lit.int .i64 r).wf = true) (_w1 : (Lit.int .i64 c).wf = true) (h2 : Mx w.heap.size w v2 A) (h3 : Is w.heap.size w v3 I) :
    Calls Try.prog 4 #[.int .i64 r, .int .i64 c, v2, v3] w fun e w' => e = .returned (.bool true) ∧ Below w.heap.size w w' := by
  have HA := hid_of h2
  have HI := hid_of h3
  obtain ⟨ec, hec⟩ : ∃ n, cre r c = n := ⟨_, rfl⟩
  obtain ⟨er, her⟩ : ∃ n, rre A I = n := ⟨_, rfl⟩
  have EC := hid_of hec
  have ER := hid_of her
  have BB := hid_of (Below.refl w.heap.size w)
  clear h2 h3 hec her
  go_enter Try.func4, Try.ntmps4
  go_wp2_with fail
  refine (cauchy_all r c _ ec EC.out).mono ?_
  rintro e w_1 ⟨vc, rfl, hC, hB⟩
  have HA := hid_of ((HA.out.below hB).mono hB.size)
  have HI := hid_of ((HI.out.below hB).mono hB.size)
  have BB := hid_of (BB.out.trans (hB.mono BB.out.size))
  have HC := hid_of hC
  clear hB hC
  go_wp2_with fail
  refine (rows_all _ _ A I _ HA.out HI.out er ER.out).mono ?_
  rintro e w_2 ⟨vr, rfl, hR, hB⟩
  have HA := hid_of ((HA.out.below hB).mono hB.size)
  have HI := hid_of ((HI.out.below hB).mono hB.size)
  have HC := hid_of ((HC.out.below hB).mono hB.size)
  have BB := hid_of (BB.out.trans (hB.mono BB.out.size))
  have HR := hid_of hR
  clear hB hR
  go_wp2_with fail
  refine (cauchyOf_all r c _ ec EC.out).mono ?_
  rintro e w_3 ⟨vd, rfl, hD, hB⟩
  have HA := hid_of ((HA.out.below hB).mono hB.size)
  have HI := hid_of ((HI.out.below hB).mono hB.size)
  have HC := hid_of ((HC.out.below hB).mono hB.size)
  have HR := hid_of ((HR.out.below hB).mono hB.size)
  have BB := hid_of (BB.out.trans (hB.mono BB.out.size))
  have HD := hid_of hD
  clear hB hD
  go_wp2_with fail
  refine (rowsOf_all _ _ A I _ HA.out HI.out er ER.out).mono ?_
  rintro e w_4 ⟨vs, rfl, hS, hB⟩
  have HA := hid_of ((HA.out.below hB).mono hB.size)
  have HI := hid_of ((HI.out.below hB).mono hB.size)
  have HC := hid_of ((HC.out.below hB).mono hB.size)
  have HR := hid_of ((HR.out.below hB).mono hB.size)
  have HD := hid_of ((HD.out.below hB).mono hB.size)
  have BB := hid_of (BB.out.trans (hB.mono BB.out.size))
  have HS := hid_of hS
  clear hB hS
  go_wp2_with fail
  refine (begun_any _).mono ?_
  rintro e w_5 ⟨rfl, hB⟩
  have HA := hid_of ((HA.out.below hB).mono hB.size)
  have HI := hid_of ((HI.out.below hB).mono hB.size)
  have HC := hid_of ((HC.out.below hB).mono hB.size)
  have HR := hid_of ((HR.out.below hB).mono hB.size)
  have HD := hid_of ((HD.out.below hB).mono hB.size)
  have HS := hid_of ((HS.out.below hB).mono hB.size)
  have BB := hid_of (BB.out.trans (hB.mono BB.out.size))
  clear hB
  go_wp2_with fail
  refine (sameM_any _ _ _ _ _ _ HC.out HD.out (Nat.le_refl _)).mono ?_
  rintro e w_6 ⟨rfl, hB⟩
  rw [decide_eq_true rfl]
  have HA := hid_of ((HA.out.below hB).mono hB.size)
  have HI := hid_of ((HI.out.below hB).mono hB.size)
  have HC := hid_of ((HC.out.below hB).mono hB.size)
  have HR := hid_of ((HR.out.below hB).mono hB.size)
  have HD := hid_of ((HD.out.below hB).mono hB.size)
  have HS := hid_of ((HS.out.below hB).mono hB.size)
  have BB := hid_of (BB.out.trans (hB.mono BB.out.size))
  clear hB
  go_wp2_with fail
  refine (sameM_any _ _ _ _ _ _ HR.out HS.out (Nat.le_refl _)).mono ?_
  rintro e w_7 ⟨rfl, hB⟩
  rw [decide_eq_true rfl]
  have HA := hid_of ((HA.out.below hB).mono hB.size)
  have HI := hid_of ((HI.out.below hB).mono hB.size)
  have HC := hid_of ((HC.out.below hB).mono hB.size)
  have HR := hid_of ((HR.out.below hB).mono hB.size)
  have HD := hid_of ((HD.out.below hB).mono hB.size)
  have HS := hid_of ((HS.out.below hB).mono hB.size)
  have BB := hid_of (BB.out.trans (hB.mono BB.out.size))
  clear hB
  go_wp2_with fail
  go_ret
  exact ⟨rfl, BB.out⟩

set_option maxRecDepth 100000 in
theorem lifted (os : Os) (started : os.Started) (H : Type) (enc : TypeId × Value → H) :
    ReturnsInHanded {} Try.checked os 4 .any (Rows.cauchyTellsSpec.pre6 enc Try.prog Try.f4 Rows.cauchyTellsRow.domain false) (Rows.cauchyTellsSpec.post enc Try.prog Try.f4 false true false false) := by
  refine returnsInHanded_of_change_sized (C := Try.checked) own started (by kernel_rfl) Try.func4
    (ChangeSpec.witness6 (enc := enc) (C := Try.checked) false ⟨#[], #[.int .i64 0, .int .i64 0, .slice none 0 0, .slice none 0 0], []⟩ 8 (by kernel_rfl) (by kernel_rfl) (by kernel_rfl) (by kernel_rfl)) ?_
  intro W base args ds gs before hval0 hW hcnd hsz0 _
  have hsz : (DataW.weightsEach Try.prog (Try.f4.params.toList ++ Rows.cauchyTellsSpec.plain.varTypes Try.prog) (ds ++ gs)).all (· ≤ reachBytes) = true := hsz0
  clear hsz0
  have hval : ∀ (j : Nat) t v, Try.f4.params[j]? = some t → args[j]? = some v → Value.okWide Try.prog W .any base t v := hval0
  have hW' := hW
  obtain ⟨p, q, hA0, hV, rfl, hfz, hnd⟩ := hW
  have hA : DataW.TrodAll enc Try.prog W 0 (fun _ => true) true Try.f4.params.toList args.toList ds p := hA0
  rw [Try.params4] at hA hval hsz
  obtain ⟨v0, vs0, d0, ds0, p0, q0, hargs, rfl, rfl, h0, r0⟩ := trodAll_cons hA
  obtain ⟨v1, vs1, d1, ds1, p1, q1, rfl, rfl, rfl, h1, r1⟩ := trodAll_cons r0
  obtain ⟨v2, vs2, d2, ds2, p2, q2, rfl, rfl, rfl, h2, r2⟩ := trodAll_cons r1
  obtain ⟨v3, vs3, d3, ds3, p3, q3, rfl, rfl, rfl, h3, r3⟩ := trodAll_cons r2
  obtain ⟨rfl, rfl, rfl⟩ := trodAll_nil r3
  obtain rfl : args = #[v0, v1, v2, v3] := by cases args; simp_all
  obtain ⟨rfl, rfl⟩ := trodVars_none hV
  obtain ⟨x0, rfl, rfl, rfl, w0⟩ := open_int Try.underlying3 (hval 0 3 v0 rfl rfl) h0
  obtain ⟨x1, rfl, rfl, rfl, w1⟩ := open_int Try.underlying3 (hval 1 3 v1 rfl rfl) h1
  obtain ⟨a2, len2, cap2, rfl⟩ := okWide_slice Try.underlying22 (hval 2 22 v2 rfl rfl)
  have k2 := h2
  have lt2 : ∀ x ∈ p2, x.block < W.heap.size := by obtain ⟨m, hm⟩ := k2; exact DataW.trod_lt m _ _ _ hm
  obtain ⟨A2, w2⟩ : ∃ A, Mx W.heap.size W (.slice a2 len2 cap2) A := by
    obtain ⟨fuel, hf⟩ := h2
    exact arg_mx hf hsz (j := 2) rfl rfl
  obtain ⟨a3, len3, cap3, rfl⟩ := okWide_slice Try.underlying35 (hval 3 35 v3 rfl rfl)
  have k3 := h3
  have lt3 : ∀ x ∈ p3, x.block < W.heap.size := by obtain ⟨m, hm⟩ := k3; exact DataW.trod_lt m _ _ _ hm
  obtain ⟨A3, w3⟩ : ∃ A, Is W.heap.size W (.slice a3 len3 cap3) A := by
    obtain ⟨fuel, hf⟩ := h3
    exact arg_is hf hsz (j := 3) rfl rfl
  clear hA0 hval0
  refine (walk x0 x1 _ A2 _ A3 W w0 w1 w2 w3).mono fun e W' ⟨he, bel⟩ => ?_
  subst he
  exact ⟨_, rfl, _, _, _, [], _, [], hW', trodAll_mk1 (shut_bool Try.underlying4 _), (trodAll_cons_mk (shut_int Try.underlying3 w0) (trodAll_cons_mk (shut_int Try.underlying3 w1) (trodAll_cons_mk (Below.trod laidOut (by kernel_rfl) (of_decide_eq_true (by kernel_rfl)) k2 bel lt2) (trodAll_cons_mk (Below.trod laidOut (by kernel_rfl) (of_decide_eq_true (by kernel_rfl)) k3 bel lt3) trodAll_mk0)))), rfl, bel.frame _, fun h => by cases h⟩

theorem over : Rows.cauchyTellsRow.holds Try.pinned (OpenSpec.ofChange Rows.cauchyTellsSpec) :=
  OpenClaim.holds_of_wide 4 Try.f4 rfl rfl rfl rfl rfl rfl rfl ⟨rfl, rfl, rfl, rfl, rfl⟩ rfl rfl rfl rfl rfl (by kernel_rfl) Try.func4 (by kernel_rfl)
    (of_decide_eq_true (by kernel_rfl)) (by unfold Func.isWrapper; first | (rw [if_pos (by decide +kernel)]; kernel_rfl) | (rw [if_neg (by decide +kernel)]; exact ⟨rfl, rfl⟩))
    (fun os started H enc _ => lifted os started H enc)

/-- ████ THE STATEMENT ████ -/
theorem proved : Rows.CauchyTellsSaid := over
#print axioms proved
end Go.Proofs.Ytjpibfnkchbglaa.cauchyTells
