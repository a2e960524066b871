/- For every list of weights, need and two sets the statement QuorumRises answers true: with more nodes it is still enough; sums of sets that share none are the sum of both together; with no condition. -/
import Derived.Test.YtegpniiokiejhabRows
import Derived.Test.YtegpniiokiejhabQv
import Derived.Test.YtegpniiokiejhabQg
import Derived.WalkKit
import Derived.ProofKit
import Derived.OpenShut
import Derived.ShutString
import Derived.ChangeOld
import Derived.Below
import Derived.SizedLaws
namespace Go.Proofs.Ytegpniiokiejhab.quorumRises
open Go.ChangeShapes Go.WideShapes Go.ChangeAt Go.RowKit
open Go.ChangeMaps (open_string shut_string)
set_option linter.unusedVariables false

theorem own : ownKnob Try.prog.godebug = none := by kernel_rfl
theorem laidOut : laidOutB Try.prog = true := by kernel_rfl

theorem ret_true {b : Bool} (h : b = true) : Ending.returned (.bool b) = .returned (.bool true) := by rw [h]
theorem rises {L : List Int} {need : Int} {a b : Nat} (ha : enE L need a = 0) (hb : enE L need (a ||| b) = 0) :
    smE L a = 0 ∧ smE L b = 0 ∧ smE L (a ||| b) = 0 ∧ smE L (a &&& b) = 0 ∧ smV L (a ||| b) + smV L (a &&& b) = smV L a + smV L b ∧ (enB L need a = true → enB L need (a ||| b) = true) := by
  obtain ⟨hq, h1⟩ := en_zero ha
  obtain ⟨_, h2⟩ := en_zero hb
  have h3 : b < 2 ^ L.length := Nat.lt_of_le_of_lt Nat.right_le_or h2
  have z1 := sm_of hq.w h1
  have z2 := sm_of hq.w h3
  have z3 := sm_of hq.w h2
  have z4 := sm_of hq.w (and_lt (b := b) h1)
  have hv : ∀ s, smE L s = 0 → smV L s = sm L s L.length := fun s hs => by unfold smV; rw [if_pos hs]
  refine ⟨z1, z2, z3, z4, ?_, fun h => ?_⟩
  · rw [hv _ z1, hv _ z2, hv _ z3, hv _ z4]
    exact sm_both L a b L.length
  · unfold enB at h ⊢
    rw [Bool.and_eq_true] at h ⊢
    have := of_decide_eq_true h.2
    have m := sm_mono L hq.w a b L.length (Nat.le_refl _)
    exact ⟨decide_eq_true hb, decide_eq_true (by omega)⟩
set_option maxRecDepth 100000 in
set_option maxHeartbeats 4000000 in
theorem walk' (v : Value) (L : List Int) (need : Int) (a b : Nat) (w : World) (ha : a < 18446744073709551616) (hb : b < 18446744073709551616) (hL : Is w.heap.size w v L) :
    Calls Try.prog 4 #[v, .int .i64 need, .int .u64 (a : Nat), .int .u64 (b : Nat)] w fun e w' => e = .returned (.bool true) ∧ Below w.heap.size w w' := by
  have HI := hid_of hL
  have BB := hid_of (Below.refl w.heap.size w)
  have HS := hid_of (@rises L need a b)
  have hab : bits .and .u64 (a : Int) (b : Int) = ((a &&& b : Nat) : Int) := bits_and_u64_nat a b ha hb
  have hor : bits .or .u64 (a : Int) (b : Int) = ((a ||| b : Nat) : Int) := bits_or_u64_nat a b ha hb
  have h64 : a &&& b < 18446744073709551616 := Nat.lt_of_le_of_lt Nat.and_le_left ha
  have h65 : a ||| b < 18446744073709551616 := Nat.or_lt_two_pow (n := 64) (by omega) (by omega)
  have HEa := hid_of (fun W hI => Enough_any v L need a W ha hI)
  have HEb := hid_of (fun W hI => Enough_any v L need (a ||| b) W h65 hI)
  have HS1 := hid_of (fun W hI => Sum_any v L a W ha hI)
  have HS2 := hid_of (fun W hI => Sum_any v L b W hb hI)
  have HS3 := hid_of (fun W hI => Sum_any v L (a ||| b) W h65 hI)
  have HS4 := hid_of (fun W hI => Sum_any v L (a &&& b) W h64 hI)
  obtain ⟨q1, q2⟩ := smV_bd (L := L) a
  obtain ⟨q3, q4⟩ := smV_bd (L := L) b
  obtain ⟨q5, q6⟩ := smV_bd (L := L) (a ||| b)
  obtain ⟨q7, q8⟩ := smV_bd (L := L) (a &&& b)
  generalize enE L need a = e1 at *
  generalize enE L need (a ||| b) = e2 at *
  generalize enB L need a = x1 at *
  generalize enB L need (a ||| b) = x2 at *
  generalize smE L a = z1 at *
  generalize smE L b = z2 at *
  generalize smE L (a ||| b) = z3 at *
  generalize smE L (a &&& b) = z4 at *
  generalize smV L a = y1 at *
  generalize smV L b = y2 at *
  generalize smV L (a ||| b) = y3 at *
  generalize smV L (a &&& b) = y4 at *
  generalize hc : a &&& b = c at *
  generalize hd : a ||| b = d at *
  clear hL ha hb h64 h65 hc hd
  go_enter Try.func4, Try.ntmps4
  go_wp2_with fail
  refine (HEa.out _ HI.out).mono ?_
  rintro e w1 ⟨rfl, h⟩
  have BB := hid_of (BB.out.trans (h.mono BB.out.size))
  have HI := hid_of ((HI.out.below h).mono h.size)
  clear h
  go_wp2_with fail
  refine (HEb.out _ HI.out).mono ?_
  rintro e w2 ⟨rfl, h⟩
  have BB := hid_of (BB.out.trans (h.mono BB.out.size))
  have HI := hid_of ((HI.out.below h).mono h.size)
  clear h
  go_wp2_with fail
  refine (begun_any _).mono ?_
  rintro e w3 ⟨rfl, h⟩
  have BB := hid_of (BB.out.trans (h.mono BB.out.size))
  have HI := hid_of ((HI.out.below h).mono h.size)
  clear h
  by_cases c1 : e1 = 0
  · by_cases c2 : e2 = 0
    · obtain ⟨r1, r2, r3, r4, r5, r6⟩ := HS.out c1 c2
      have HR6 := hid_of r6
      have g5 : (y3 + y4 == y1 + y2) = true := by rw [r5]; simp
      subst c1 c2 r1 r2 r3 r4
      clear r5 r6 HS
      go_wp2_with fail
      refine (HS1.out _ HI.out).mono ?_
      rintro e w4 ⟨rfl, h⟩
      have BB := hid_of (BB.out.trans (h.mono BB.out.size))
      have HI := hid_of ((HI.out.below h).mono h.size)
      clear h
      go_wp2_with fail
      refine (HS2.out _ HI.out).mono ?_
      rintro e w5 ⟨rfl, h⟩
      have BB := hid_of (BB.out.trans (h.mono BB.out.size))
      have HI := hid_of ((HI.out.below h).mono h.size)
      clear h
      go_wp2_with fail
      refine (HS3.out _ HI.out).mono ?_
      rintro e w6 ⟨rfl, h⟩
      have BB := hid_of (BB.out.trans (h.mono BB.out.size))
      have HI := hid_of ((HI.out.below h).mono h.size)
      clear h
      go_wp2_with fail
      refine (HS4.out _ HI.out).mono ?_
      rintro e w7 ⟨rfl, h⟩
      have BB := hid_of (BB.out.trans (h.mono BB.out.size))
      clear h HI
      cases x1
      · go_wp2_with fail
        go_ret
        exact ⟨rfl, BB.out⟩
      · have h2 := HR6.out rfl
        subst h2
        go_wp2_with fail
        go_ret
        exact ⟨rfl, BB.out⟩
    · have t2 : (e2 != 0) = true := by rw [bne_iff_ne]; exact c2
      subst c1
      go_wp2_with fail
      go_ret
      exact ⟨rfl, BB.out⟩
  · have t1 : (e1 != 0) = true := by rw [bne_iff_ne]; exact c1
    go_wp2_with fail
    go_ret
    exact ⟨rfl, BB.out⟩
theorem walk (v : Value) (L : List Int) (need a b : Int) (w : World) (hL : Is w.heap.size w v L) (wn : (Lit.int .i64 need).wf = true) (wa : (Lit.int .u64 a).wf = true) (wb : (Lit.int .u64 b).wf = true) :
    Calls Try.prog 4 #[v, .int .i64 need, .int .u64 a, .int .u64 b] w fun e w' => e = .returned (.bool true) ∧ Below w.heap.size w w' := by
  obtain ⟨a1, a2⟩ := bounds_u64 wa
  obtain ⟨b1, b2⟩ := bounds_u64 wb
  obtain ⟨A, rfl⟩ := Int.eq_ofNat_of_zero_le a1
  obtain ⟨B, rfl⟩ := Int.eq_ofNat_of_zero_le b1
  exact walk' v L need A B w (by omega) (by omega) hL

set_option maxRecDepth 100000 in
theorem lifted (os : Os) (started : os.Started) (H : Type) (enc : TypeId × Value → H) :
    ReturnsInHanded {} Try.checked os 4 .any (Rows.quorumRisesSpec.pre6 enc Try.prog Try.f4 Rows.quorumRisesRow.domain false) (Rows.quorumRisesSpec.post enc Try.prog Try.f4 false true false false) := by
  refine returnsInHanded_of_change_sized (C := Try.checked) own started (by kernel_rfl) Try.func4
    (ChangeSpec.witness6 (enc := enc) (C := Try.checked) false ⟨#[], #[.slice none 0 0, .int .i64 0, .int .u64 0, .int .u64 0], []⟩ 8 (by kernel_rfl) (by kernel_rfl) (by kernel_rfl) (by kernel_rfl)) ?_
  intro W base args ds gs before hval0 hW hcnd hsz0 _
  have hsz : (DataW.weightsEach Try.prog (Try.f4.params.toList ++ Rows.quorumRisesSpec.plain.varTypes Try.prog) (ds ++ gs)).all (· ≤ reachBytes) = true := hsz0
  clear hsz0
  have hval : ∀ (j : Nat) t v, Try.f4.params[j]? = some t → args[j]? = some v → Value.okWide Try.prog W .any base t v := hval0
  have hW' := hW
  obtain ⟨p, q, hA0, hV, rfl, hfz, hnd⟩ := hW
  have hA : DataW.TrodAll enc Try.prog W 0 (fun _ => true) true Try.f4.params.toList args.toList ds p := hA0
  rw [Try.params4] at hA hval hsz
  obtain ⟨v0, vs0, d0, ds0, p0, q0, hargs, rfl, rfl, h0, r0⟩ := trodAll_cons hA
  obtain ⟨v1, vs1, d1, ds1, p1, q1, rfl, rfl, rfl, h1, r1⟩ := trodAll_cons r0
  obtain ⟨v2, vs2, d2, ds2, p2, q2, rfl, rfl, rfl, h2, r2⟩ := trodAll_cons r1
  obtain ⟨v3, vs3, d3, ds3, p3, q3, rfl, rfl, rfl, h3, r3⟩ := trodAll_cons r2
  obtain ⟨rfl, rfl, rfl⟩ := trodAll_nil r3
  obtain rfl : args = #[v0, v1, v2, v3] := by cases args; simp_all
  obtain ⟨rfl, rfl⟩ := trodVars_none hV
  obtain ⟨a0, len0, cap0, rfl⟩ := okWide_slice Try.underlying22 (hval 0 22 v0 rfl rfl)
  have k0 := h0
  have lt0 : ∀ x ∈ p0, x.block < W.heap.size := by obtain ⟨m, hm⟩ := k0; exact DataW.trod_lt m _ _ _ hm
  obtain ⟨A0, w0⟩ : ∃ A, Is W.heap.size W (.slice a0 len0 cap0) A := by
    obtain ⟨fuel, hf⟩ := h0
    exact arg_is hf hsz (j := 0) rfl rfl
  obtain ⟨x1, rfl, rfl, rfl, w1⟩ := open_int Try.underlying3 (hval 1 3 v1 rfl rfl) h1
  obtain ⟨x2, rfl, rfl, rfl, w2⟩ := open_int Try.underlying23 (hval 2 23 v2 rfl rfl) h2
  obtain ⟨x3, rfl, rfl, rfl, w3⟩ := open_int Try.underlying23 (hval 3 23 v3 rfl rfl) h3
  clear hA0 hval0
  refine (walk _ A0 x1 x2 x3 W w0 w1 w2 w3).mono fun e W' ⟨he, bel⟩ => ?_
  subst he
  exact ⟨_, rfl, _, _, _, [], _, [], hW', trodAll_mk1 (shut_bool Try.underlying4 _), (trodAll_cons_mk (Below.trod laidOut (by kernel_rfl) (of_decide_eq_true (by kernel_rfl)) k0 bel lt0) (trodAll_cons_mk (shut_int Try.underlying3 w1) (trodAll_cons_mk (shut_int Try.underlying23 w2) (trodAll_cons_mk (shut_int Try.underlying23 w3) trodAll_mk0)))), rfl, bel.frame _, fun h => by cases h⟩

theorem over : Rows.quorumRisesRow.holds Try.pinned (OpenSpec.ofChange Rows.quorumRisesSpec) :=
  OpenClaim.holds_of_wide 4 Try.f4 rfl rfl rfl rfl rfl rfl rfl ⟨rfl, rfl, rfl, rfl, rfl⟩ rfl rfl rfl rfl rfl (by kernel_rfl) Try.func4 (by kernel_rfl)
    (of_decide_eq_true (by kernel_rfl)) (by unfold Func.isWrapper; first | (rw [if_pos (by decide +kernel)]; kernel_rfl) | (rw [if_neg (by decide +kernel)]; exact ⟨rfl, rfl⟩))
    (fun os started H enc _ => lifted os started H enc)

/-- ████ THE STATEMENT ████ -/
theorem proved : Rows.QuorumRisesSaid := over
#print axioms proved
end Go.Proofs.Ytegpniiokiejhab.quorumRises
