/- For every list of weights, need and set the statement QuorumTells answers true: all calls of quorum answer just what the reference answers, errors too; with no condition. -/
import Derived.Test.YtegpniiokiejhaaRows
import Derived.Test.YtegpniiokiejhaaQz
import Derived.Test.YtegpniiokiejhaaQg
import Derived.WalkKit
import Derived.ProofKit
import Derived.OpenShut
import Derived.ShutString
import Derived.ChangeOld
import Derived.Below
import Derived.SizedLaws
namespace Go.Proofs.Ytegpniiokiejhaa.quorumTells
open Go.ChangeShapes Go.WideShapes Go.ChangeAt Go.RowKit
open Go.ChangeMaps (open_string shut_string)
set_option linter.unusedVariables false

theorem own : ownKnob Try.prog.godebug = none := by kernel_rfl
theorem laidOut : laidOutB Try.prog = true := by kernel_rfl

theorem ret_true {b : Bool} (h : b = true) : Ending.returned (.bool b) = .returned (.bool true) := by rw [h]
theorem least_same {L : List Int} {need : Int} {l b : Nat} (hq : qk L need = 0) (h : LeastIs L need l) (hb : Best L need (2 ^ L.length) b) : b = l :=
  (best_least hb (qk_zero hq).n2).unique (h.1 hq)
theorem spare_same {L : List Int} {need : Int} {l b : Nat} (hq : qk L need = 0) (h : SpareIs L need l) (hb : Wrst L need (2 ^ L.length) b) : b = l := by
  have := (wrst_spare (qk_zero hq) hb).unique (h.1 hq)
  omega
set_option maxRecDepth 100000 in
set_option maxHeartbeats 8000000 in
theorem walk' (v : Value) (L : List Int) (need : Int) (a : Nat) (w : World) (hs : a < 18446744073709551616) (hL : Is w.heap.size w v L) :
    Calls Try.prog 8 #[v, .int .i64 need, .int .u64 (a : Nat)] w fun e w' => e = .returned (.bool true) ∧ Below w.heap.size w w' := by
  have HI := hid_of hL
  have BB := hid_of (Below.refl w.heap.size w)
  have HSu := hid_of (fun W hI => Sum_any v L a W hs hI)
  have HEn := hid_of (fun W hI => Enough_any v L need a W hs hI)
  have HLe := hid_of (fun W hI => Least_any v L need W hI)
  have HSp := hid_of (fun W hI => Spare_any v L need W hI)
  have HSn := hid_of (fun W hI => sumNo_any v L a W.heap.size W hs hI)
  have HQc := hid_of (fun W hI => qCheck_any v L need W.heap.size W hI)
  have HCk := hid_of (fun W hI => Check_any v L need W hI)
  have HLo := hid_of (fun W hI hQ => leastOf_any v L need W.heap.size W hI hQ)
  have HSo := hid_of (fun W hI hQ => spareOf_any v L need W.heap.size W hI hQ)
  have HZ := hid_of (@qk_zero L need)
  have HLs := hid_of (fun (hq : qk L need = 0) (l b : Nat) h hb => least_same (l := l) (b := b) hq h hb)
  have HSs := hid_of (fun (hq : qk L need = 0) (l b : Nat) h hb => spare_same (l := l) (b := b) hq h hb)
  have HL0 : Hid (∀ l, LeastIs L need l → qk L need ≠ 0 → l = 0) := hid_of fun l h => h.2
  have HS0 : Hid (∀ l, SpareIs L need l → qk L need ≠ 0 → l = 0) := hid_of fun l h => h.2
  have HEs := hid_of (@en_sum L need a)
  have HEo := hid_of (@en_no L need a)
  have HV0 : Hid (smE L a ≠ 0 → smV L a = 0) := hid_of fun h => by unfold smV; rw [if_neg h]
  obtain ⟨m1, m2⟩ := smV_bd (L := L) a
  generalize smV L a = m at *
  generalize smE L a = z at *
  generalize enB L need a = x at *
  generalize enE L need a = f at *
  obtain ⟨q, hq⟩ : ∃ q, qk L need = q := ⟨_, rfl⟩
  rw [hq] at HLe HSp HQc HCk HZ HLs HSs HL0 HS0 HEs HEo
  clear hq hL hs
  go_enter Try.func8, Try.ntmps8
  go_wp2_with fail
  refine (HSu.out _ HI.out).mono ?_
  rintro e w1 ⟨rfl, h⟩
  have BB := hid_of (BB.out.trans (h.mono BB.out.size))
  have HI := hid_of ((HI.out.below h).mono h.size)
  clear h
  go_wp2_with fail
  refine (HEn.out _ HI.out).mono ?_
  rintro e w2 ⟨rfl, h⟩
  have BB := hid_of (BB.out.trans (h.mono BB.out.size))
  have HI := hid_of ((HI.out.below h).mono h.size)
  clear h
  go_wp2_with fail
  refine (HLe.out _ HI.out).mono ?_
  rintro e w3 ⟨l, rfl, hl, h⟩
  have HPl := hid_of hl
  have BB := hid_of (BB.out.trans (h.mono BB.out.size))
  have HI := hid_of ((HI.out.below h).mono h.size)
  clear h hl
  go_wp2_with fail
  refine (HSp.out _ HI.out).mono ?_
  rintro e w4 ⟨s, rfl, hl, h⟩
  have HPs := hid_of hl
  have BB := hid_of (BB.out.trans (h.mono BB.out.size))
  have HI := hid_of ((HI.out.below h).mono h.size)
  clear h hl
  go_wp2_with fail
  refine (HSn.out _ HI.out).mono ?_
  rintro e w5 ⟨rfl, hw⟩
  subst hw
  go_wp2_with fail
  refine (HQc.out _ HI.out).mono ?_
  rintro e w5 ⟨rfl, hw⟩
  subst hw
  by_cases c1 : q = 0
  · have HQ := hid_of (HZ.out c1)
    have n1 := HQ.out.n1
    obtain ⟨r1, r2⟩ := HEs.out c1
    have HLs2 := hid_of (HLs.out c1)
    have HSs2 := hid_of (HSs.out c1)
    subst c1 r1
    have HX := hid_of r2
    clear r2 HEs HEo HL0 HS0 HZ
    go_wp2_with fail
    refine (HLo.out _ HI.out HQ.out).mono ?_
    rintro e w6 ⟨⟨b1, rfl, hb1⟩, hw⟩
    subst hw
    have e1 := HLs2.out _ _ HPl.out hb1
    subst e1
    clear hb1
    go_wp2_with fail
    refine (HSo.out _ HI.out HQ.out).mono ?_
    rintro e w6 ⟨⟨b2, rfl, hb2⟩, hw⟩
    subst hw
    have e2 := HSs2.out _ _ HPs.out hb2
    subst e2
    clear hb2
    go_wp2_with fail
    refine (begun_any _).mono ?_
    rintro e w7 ⟨rfl, h⟩
    have BB := hid_of (BB.out.trans (h.mono BB.out.size))
    have HI := hid_of ((HI.out.below h).mono h.size)
    clear h
    go_wp2_with fail
    refine (HCk.out _ HI.out).mono ?_
    rintro e w8 ⟨rfl, h⟩
    have BB := hid_of (BB.out.trans (h.mono BB.out.size))
    clear h
    by_cases d1 : f = 0
    · subst d1
      by_cases d2 : need ≤ m
      · have hx : x = true := by rw [HX.out]; exact decide_eq_true d2
        subst hx
        go_wp2_with fail
        go_ret
        refine ⟨ret_true ?_, BB.out⟩
        simp
      · have hx : x = false := by rw [HX.out]; exact decide_eq_false d2
        subst hx
        go_wp2_with fail
        go_ret
        refine ⟨ret_true ?_, BB.out⟩
        simp
        omega
    · have hm := HV0.out d1
      have hx : x = false := by rw [HX.out, hm]; exact decide_eq_false (by omega)
      have ty : (f == 0) = false := beq_eq_false_iff_ne.2 d1
      subst hx hm
      go_wp2_with fail
      go_ret
      refine ⟨ret_true ?_, BB.out⟩
      simp
  · have ty : (q == 0) = false := beq_eq_false_iff_ne.2 c1
    obtain ⟨r1, r2⟩ := HEo.out c1
    have e1 := HL0.out _ HPl.out c1
    have e2 := HS0.out _ HPs.out c1
    subst r1 r2 e1 e2
    go_wp2_with fail
    refine (begun_any _).mono ?_
    rintro e w7 ⟨rfl, h⟩
    have BB := hid_of (BB.out.trans (h.mono BB.out.size))
    have HI := hid_of ((HI.out.below h).mono h.size)
    clear h
    go_wp2_with fail
    refine (HCk.out _ HI.out).mono ?_
    rintro e w8 ⟨rfl, h⟩
    have BB := hid_of (BB.out.trans (h.mono BB.out.size))
    clear h
    go_wp2_with fail
    go_ret
    refine ⟨ret_true ?_, BB.out⟩
    simp
theorem walk (v : Value) (L : List Int) (need a : Int) (w : World) (hL : Is w.heap.size w v L) (wn : (Lit.int .i64 need).wf = true) (wa : (Lit.int .u64 a).wf = true) :
    Calls Try.prog 8 #[v, .int .i64 need, .int .u64 a] w fun e w' => e = .returned (.bool true) ∧ Below w.heap.size w w' := by
  obtain ⟨a1, a2⟩ := bounds_u64 wa
  obtain ⟨A, rfl⟩ := Int.eq_ofNat_of_zero_le a1
  exact walk' v L need A w (by omega) hL

set_option maxRecDepth 100000 in
theorem lifted (os : Os) (started : os.Started) (H : Type) (enc : TypeId × Value → H) :
    ReturnsInHanded {} Try.checked os 8 .any (Rows.quorumTellsSpec.pre6 enc Try.prog Try.f8 Rows.quorumTellsRow.domain false) (Rows.quorumTellsSpec.post enc Try.prog Try.f8 false true false false) := by
  refine returnsInHanded_of_change_sized (C := Try.checked) own started (by kernel_rfl) Try.func8
    (ChangeSpec.witness6 (enc := enc) (C := Try.checked) false ⟨#[], #[.slice none 0 0, .int .i64 0, .int .u64 0], []⟩ 8 (by kernel_rfl) (by kernel_rfl) (by kernel_rfl) (by kernel_rfl)) ?_
  intro W base args ds gs before hval0 hW hcnd hsz0 _
  have hsz : (DataW.weightsEach Try.prog (Try.f8.params.toList ++ Rows.quorumTellsSpec.plain.varTypes Try.prog) (ds ++ gs)).all (· ≤ reachBytes) = true := hsz0
  clear hsz0
  have hval : ∀ (j : Nat) t v, Try.f8.params[j]? = some t → args[j]? = some v → Value.okWide Try.prog W .any base t v := hval0
  have hW' := hW
  obtain ⟨p, q, hA0, hV, rfl, hfz, hnd⟩ := hW
  have hA : DataW.TrodAll enc Try.prog W 0 (fun _ => true) true Try.f8.params.toList args.toList ds p := hA0
  rw [Try.params8] at hA hval hsz
  obtain ⟨v0, vs0, d0, ds0, p0, q0, hargs, rfl, rfl, h0, r0⟩ := trodAll_cons hA
  obtain ⟨v1, vs1, d1, ds1, p1, q1, rfl, rfl, rfl, h1, r1⟩ := trodAll_cons r0
  obtain ⟨v2, vs2, d2, ds2, p2, q2, rfl, rfl, rfl, h2, r2⟩ := trodAll_cons r1
  obtain ⟨rfl, rfl, rfl⟩ := trodAll_nil r2
  obtain rfl : args = #[v0, v1, v2] := by cases args; simp_all
  obtain ⟨rfl, rfl⟩ := trodVars_none hV
  obtain ⟨a0, len0, cap0, rfl⟩ := okWide_slice Try.underlying31 (hval 0 31 v0 rfl rfl)
  have k0 := h0
  have lt0 : ∀ x ∈ p0, x.block < W.heap.size := by obtain ⟨m, hm⟩ := k0; exact DataW.trod_lt m _ _ _ hm
  obtain ⟨A0, w0⟩ : ∃ A, Is W.heap.size W (.slice a0 len0 cap0) A := by
    obtain ⟨fuel, hf⟩ := h0
    exact arg_is hf hsz (j := 0) rfl rfl
  obtain ⟨x1, rfl, rfl, rfl, w1⟩ := open_int Try.underlying3 (hval 1 3 v1 rfl rfl) h1
  obtain ⟨x2, rfl, rfl, rfl, w2⟩ := open_int Try.underlying40 (hval 2 40 v2 rfl rfl) h2
  clear hA0 hval0
  refine (walk _ A0 x1 x2 W w0 w1 w2).mono fun e W' ⟨he, bel⟩ => ?_
  subst he
  exact ⟨_, rfl, _, _, _, [], _, [], hW', trodAll_mk1 (shut_bool Try.underlying4 _), (trodAll_cons_mk (Below.trod laidOut (by kernel_rfl) (of_decide_eq_true (by kernel_rfl)) k0 bel lt0) (trodAll_cons_mk (shut_int Try.underlying3 w1) (trodAll_cons_mk (shut_int Try.underlying40 w2) trodAll_mk0))), rfl, bel.frame _, fun h => by cases h⟩

theorem over : Rows.quorumTellsRow.holds Try.pinned (OpenSpec.ofChange Rows.quorumTellsSpec) :=
  OpenClaim.holds_of_wide 8 Try.f8 rfl rfl rfl rfl rfl rfl rfl ⟨rfl, rfl, rfl, rfl, rfl⟩ rfl rfl rfl rfl rfl (by kernel_rfl) Try.func8 (by kernel_rfl)
    (of_decide_eq_true (by kernel_rfl)) (by unfold Func.isWrapper; first | (rw [if_pos (by decide +kernel)]; kernel_rfl) | (rw [if_neg (by decide +kernel)]; exact ⟨rfl, rfl⟩))
    (fun os started H enc _ => lifted os started H enc)

/-- ████ THE STATEMENT ████ -/
theorem proved : Rows.QuorumTellsSaid := over
#print axioms proved
end Go.Proofs.Ytegpniiokiejhaa.quorumTells
