/- For every list of weights, need and set the statement QuorumDual answers true: a set and the others are never both enough; together they weigh all; with no condition. -/
import Derived.Test.YtegpniiokiejhabRows
import Derived.Test.YtegpniiokiejhabQw
import Derived.Test.YtegpniiokiejhabQg
import Derived.WalkKit
import Derived.ProofKit
import Derived.OpenShut
import Derived.ShutString
import Derived.ChangeOld
import Derived.Below
import Derived.SizedLaws
namespace Go.Proofs.Ytegpniiokiejhab.quorumDual
open Go.ChangeShapes Go.WideShapes Go.ChangeAt Go.RowKit
open Go.ChangeMaps (open_string shut_string)
set_option linter.unusedVariables false

theorem own : ownKnob Try.prog.godebug = none := by kernel_rfl
theorem laidOut : laidOutB Try.prog = true := by kernel_rfl

theorem ret_true {b : Bool} (h : b = true) : Ending.returned (.bool b) = .returned (.bool true) := by rw [h]
theorem dual {L : List Int} {need : Int} {s : Nat} (hs : s < 18446744073709551616) (h : enE L need s = 0) :
    enE L need (oth L.length s) = 0 ∧ smE L s = 0 ∧ smE L (oth L.length s) = 0 ∧ smV L s + smV L (oth L.length s) = L.sum ∧ ¬ (enB L need s = true ∧ enB L need (oth L.length s) = true) := by
  obtain ⟨hq, h1⟩ := en_zero h
  have hl := hq.w.l2
  have z1 := sm_of hq.w h1
  have z2 := sm_of hq.w (oth_lt (n := L.length) (s := s))
  have hv : ∀ s, smE L s = 0 → smV L s = sm L s L.length := fun s hs => by unfold smV; rw [if_pos hs]
  have e := sm_oth L hl hs rfl L.length (Nat.le_refl _)
  rw [List.take_length] at e
  refine ⟨en_of hq oth_lt, z1, z2, by rw [hv _ z1, hv _ z2]; exact e, fun ⟨h1, h2⟩ => ?_⟩
  unfold enB at h1 h2
  rw [Bool.and_eq_true] at h1 h2
  have h1 := of_decide_eq_true h1.2
  have h2 := of_decide_eq_true h2.2
  have := hq.n3
  omega
set_option maxRecDepth 100000 in
set_option maxHeartbeats 4000000 in
theorem walk' (v : Value) (L : List Int) (need : Int) (s : Nat) (w : World) (hs : s < 18446744073709551616) (hL : Is w.heap.size w v L) :
    Calls Try.prog 7 #[v, .int .i64 need, .int .u64 (s : Nat)] w fun e w' => e = .returned (.bool true) ∧ Below w.heap.size w w' := by
  have HI := hid_of hL
  have BB := hid_of (Below.refl w.heap.size w)
  have HEa := hid_of (fun W hI => Enough_any v L need s W hs hI)
  have HZ := hid_of (@en_zero L need s)
  have HD := hid_of (@dual L need s hs)
  have ho64 : L.length ≤ 12 → oth L.length s < 18446744073709551616 := fun h => by
    have := oth_lt (n := L.length) (s := s)
    have := pow_small h
    omega
  have HOE := hid_of (fun h => oth_eq (n := L.length) (s := s) h hs)
  have HAL := hid_of (fun h => all_eq (n := L.length) h)
  have HEo := hid_of (fun h W hI => Enough_any v L need (oth L.length s) W (ho64 h) hI)
  have HSs := hid_of (fun W hI => Sum_any v L s W hs hI)
  have HSo := hid_of (fun h W hI => Sum_any v L (oth L.length s) W (ho64 h) hI)
  have HB0 : Hid (enE L need s ≠ 0 → enB L need s = false) := hid_of fun h => by unfold enB; rw [decide_eq_false h]; rfl
  obtain ⟨q1, q2⟩ := smV_bd (L := L) s
  obtain ⟨q3, q4⟩ := smV_bd (L := L) (oth L.length s)
  clear ho64
  generalize enE L need (oth L.length s) = e2 at *
  generalize enB L need (oth L.length s) = x2 at *
  generalize smE L s = z1 at *
  generalize smE L (oth L.length s) = z2 at *
  generalize smV L s = y1 at *
  generalize smV L (oth L.length s) = y2 at *
  generalize oth L.length s = o at *
  generalize 2 ^ L.length - 1 = M at *
  generalize enE L need s = e1 at *
  generalize enB L need s = x1 at *
  obtain ⟨a, c, rfl⟩ := hL.shape
  have hl2 := hL.1
  clear hL
  go_enter Try.func7, Try.ntmps7
  go_wp2_with fail
  refine (HEa.out _ HI.out).mono ?_
  rintro e w1 ⟨rfl, h⟩
  have BB := hid_of (BB.out.trans (h.mono BB.out.size))
  have HI := hid_of ((HI.out.below h).mono h.size)
  clear h
  go_wp2_with fail
  refine (begun_any _).mono ?_
  rintro e w3 ⟨rfl, h⟩
  have BB := hid_of (BB.out.trans (h.mono BB.out.size))
  have HI := hid_of ((HI.out.below h).mono h.size)
  clear h
  by_cases c1 : e1 = 0
  · obtain ⟨hq, h1⟩ := HZ.out c1
    have hl := hq.w.l2
    have hW := hid_of hq.w
    obtain ⟨r1, r2, r3, r4, r5⟩ := HD.out c1
    have HR4 := hid_of r4
    have HR5 := hid_of r5
    have hall := HAL.out hl
    have hoe := HOE.out hl
    subst c1 r1 r2 r3
    clear r4 r5 HD HZ HAL HOE HB0 hq
    go_wp2_with fail
    refine (HEo.out hl _ HI.out).mono ?_
    rintro e w4 ⟨rfl, h⟩
    have BB := hid_of (BB.out.trans (h.mono BB.out.size))
    have HI := hid_of ((HI.out.below h).mono h.size)
    clear h
    go_wp2_with fail
    refine (HSs.out _ HI.out).mono ?_
    rintro e w5 ⟨rfl, h⟩
    have BB := hid_of (BB.out.trans (h.mono BB.out.size))
    have HI := hid_of ((HI.out.below h).mono h.size)
    clear h
    go_wp2_with fail
    refine (HSo.out hl _ HI.out).mono ?_
    rintro e w6 ⟨rfl, h⟩
    have BB := hid_of (BB.out.trans (h.mono BB.out.size))
    have HI := hid_of ((HI.out.below h).mono h.size)
    clear h hall hoe
    go_wp2_with fail
    go_loopw [16, 17] (fun y i w' => ∃ k : Nat, k ≤ L.length ∧ y = .int .i64 (L.take k).sum ∧ i = .int .i64 k ∧ w' = w6) (fun _ i _ => L.length - (intOf i).toNat)
    case atStart => exact ⟨0, by omega, rfl, rfl, rfl⟩
    case round =>
      obtain ⟨k, hk, rfl, rfl, hw⟩ := hrel
      subst hw
      obtain ⟨p1, p2⟩ := hW.out.bd k hk
      by_cases hlt : k < L.length
      · obtain ⟨b, off, rfl, hx⟩ := HI.out.at hlt
        obtain ⟨x1, x2⟩ := hW.out.at hlt
        have HT := hid_of (take_sum hlt)
        obtain ⟨x, hxe⟩ : ∃ x, L[k]?.getD 0 = x := ⟨_, rfl⟩
        rw [hxe] at hx HT x1 x2
        clear hxe
        generalize (L.take k).sum = y at *
        go_wp2_with fail
        go_roundw
        case rel => exact ⟨k + 1, by omega, by rw [HT.out], by go_num, trivial⟩
        case measure => simp [intOf]; omega
      · have hke : L.take k = L := List.take_of_length_le (by omega)
        rw [hke]
        rw [hke] at p1 p2
        have g5 : (y1 + y2 == L.sum) = true := by rw [HR4.out]; simp
        generalize L.sum = su at *
        clear hke
        cases c3 : x1
        · subst c3
          go_wp2_with fail
          go_ret
          exact ⟨rfl, BB.out⟩
        · cases c4 : x2
          · subst c3 c4
            go_wp2_with fail
            go_ret
            exact ⟨rfl, BB.out⟩
          · exact absurd ⟨c3, c4⟩ HR5.out
  · have t1 : (e1 != 0) = true := by rw [bne_iff_ne]; exact c1
    have hx := HB0.out c1
    subst hx
    go_wp2_with fail
    go_ret
    exact ⟨rfl, BB.out⟩
theorem walk (v : Value) (L : List Int) (need a : Int) (w : World) (hL : Is w.heap.size w v L) (wn : (Lit.int .i64 need).wf = true) (wa : (Lit.int .u64 a).wf = true) :
    Calls Try.prog 7 #[v, .int .i64 need, .int .u64 a] w fun e w' => e = .returned (.bool true) ∧ Below w.heap.size w w' := by
  obtain ⟨a1, a2⟩ := bounds_u64 wa
  obtain ⟨A, rfl⟩ := Int.eq_ofNat_of_zero_le a1
  exact walk' v L need A w (by omega) hL

set_option maxRecDepth 100000 in
theorem lifted (os : Os) (started : os.Started) (H : Type) (enc : TypeId × Value → H) :
    ReturnsInHanded {} Try.checked os 7 .any (Rows.quorumDualSpec.pre6 enc Try.prog Try.f7 Rows.quorumDualRow.domain false) (Rows.quorumDualSpec.post enc Try.prog Try.f7 false true false false) := by
  refine returnsInHanded_of_change_sized (C := Try.checked) own started (by kernel_rfl) Try.func7
    (ChangeSpec.witness6 (enc := enc) (C := Try.checked) false ⟨#[], #[.slice none 0 0, .int .i64 0, .int .u64 0], []⟩ 8 (by kernel_rfl) (by kernel_rfl) (by kernel_rfl) (by kernel_rfl)) ?_
  intro W base args ds gs before hval0 hW hcnd hsz0 _
  have hsz : (DataW.weightsEach Try.prog (Try.f7.params.toList ++ Rows.quorumDualSpec.plain.varTypes Try.prog) (ds ++ gs)).all (· ≤ reachBytes) = true := hsz0
  clear hsz0
  have hval : ∀ (j : Nat) t v, Try.f7.params[j]? = some t → args[j]? = some v → Value.okWide Try.prog W .any base t v := hval0
  have hW' := hW
  obtain ⟨p, q, hA0, hV, rfl, hfz, hnd⟩ := hW
  have hA : DataW.TrodAll enc Try.prog W 0 (fun _ => true) true Try.f7.params.toList args.toList ds p := hA0
  rw [Try.params7] at hA hval hsz
  obtain ⟨v0, vs0, d0, ds0, p0, q0, hargs, rfl, rfl, h0, r0⟩ := trodAll_cons hA
  obtain ⟨v1, vs1, d1, ds1, p1, q1, rfl, rfl, rfl, h1, r1⟩ := trodAll_cons r0
  obtain ⟨v2, vs2, d2, ds2, p2, q2, rfl, rfl, rfl, h2, r2⟩ := trodAll_cons r1
  obtain ⟨rfl, rfl, rfl⟩ := trodAll_nil r2
  obtain rfl : args = #[v0, v1, v2] := by cases args; simp_all
  obtain ⟨rfl, rfl⟩ := trodVars_none hV
  obtain ⟨a0, len0, cap0, rfl⟩ := okWide_slice Try.underlying22 (hval 0 22 v0 rfl rfl)
  have k0 := h0
  have lt0 : ∀ x ∈ p0, x.block < W.heap.size := by obtain ⟨m, hm⟩ := k0; exact DataW.trod_lt m _ _ _ hm
  obtain ⟨A0, w0⟩ : ∃ A, Is W.heap.size W (.slice a0 len0 cap0) A := by
    obtain ⟨fuel, hf⟩ := h0
    exact arg_is hf hsz (j := 0) rfl rfl
  obtain ⟨x1, rfl, rfl, rfl, w1⟩ := open_int Try.underlying3 (hval 1 3 v1 rfl rfl) h1
  obtain ⟨x2, rfl, rfl, rfl, w2⟩ := open_int Try.underlying23 (hval 2 23 v2 rfl rfl) h2
  clear hA0 hval0
  refine (walk _ A0 x1 x2 W w0 w1 w2).mono fun e W' ⟨he, bel⟩ => ?_
  subst he
  exact ⟨_, rfl, _, _, _, [], _, [], hW', trodAll_mk1 (shut_bool Try.underlying4 _), (trodAll_cons_mk (Below.trod laidOut (by kernel_rfl) (of_decide_eq_true (by kernel_rfl)) k0 bel lt0) (trodAll_cons_mk (shut_int Try.underlying3 w1) (trodAll_cons_mk (shut_int Try.underlying23 w2) trodAll_mk0))), rfl, bel.frame _, fun h => by cases h⟩

theorem over : Rows.quorumDualRow.holds Try.pinned (OpenSpec.ofChange Rows.quorumDualSpec) :=
  OpenClaim.holds_of_wide 7 Try.f7 rfl rfl rfl rfl rfl rfl rfl ⟨rfl, rfl, rfl, rfl, rfl⟩ rfl rfl rfl rfl rfl (by kernel_rfl) Try.func7 (by kernel_rfl)
    (of_decide_eq_true (by kernel_rfl)) (by unfold Func.isWrapper; first | (rw [if_pos (by decide +kernel)]; kernel_rfl) | (rw [if_neg (by decide +kernel)]; exact ⟨rfl, rfl⟩))
    (fun os started H enc _ => lifted os started H enc)

/-- ████ THE STATEMENT ████ -/
theorem proved : Rows.QuorumDualSaid := over
#print axioms proved
end Go.Proofs.Ytegpniiokiejhab.quorumDual
