/- For every list of weights, need and set the statement QuorumSpare answers true: whichever so many nodes are away, the others are enough; fewer nodes than the least are never enough; with no condition. -/
import Derived.Test.YtegpniiokiejhabRows
import Derived.Test.YtegpniiokiejhabQx
import Derived.Test.YtegpniiokiejhabQg
import Derived.WalkKit
import Derived.ProofKit
import Derived.OpenShut
import Derived.ShutString
import Derived.ChangeOld
import Derived.Below
import Derived.SizedLaws
namespace Go.Proofs.Ytegpniiokiejhab.quorumSpare
open Go.ChangeShapes Go.WideShapes Go.ChangeAt Go.RowKit
open Go.ChangeMaps (open_string shut_string)
set_option linter.unusedVariables false

theorem own : ownKnob Try.prog.godebug = none := by kernel_rfl
theorem laidOut : laidOutB Try.prog = true := by kernel_rfl

theorem ret_true {b : Bool} (h : b = true) : Ending.returned (.bool b) = .returned (.bool true) := by rw [h]
set_option maxRecDepth 100000 in
set_option maxHeartbeats 4000000 in
theorem walk' (v : Value) (L : List Int) (need : Int) (a0 : Nat) (w : World) (hs : a0 < 18446744073709551616) (hL : Is w.heap.size w v L) :
    Calls Try.prog 5 #[v, .int .i64 need, .int .u64 (a0 : Nat)] w fun e w' => e = .returned (.bool true) ∧ Below w.heap.size w w' := by
  have HI := hid_of hL
  have BB := hid_of (Below.refl w.heap.size w)
  have HSp := hid_of (fun W hI => Spare_any v L need W hI)
  have HLe := hid_of (fun W hI => Least_any v L need W hI)
  have HQ := hid_of (@qk_zero L need)
  have HNo := hid_of (fun (h : qk L need ≠ 0) (s l : Nat) hs hl => spare_no (s := s) (l := l) h hs hl)
  have hM64 : L.length ≤ 12 → 2 ^ L.length - 1 < 18446744073709551616 := fun h => by have := pow_small h; omega
  have HAL := hid_of (fun h => all_eq (n := L.length) h)
  have HAn := hid_of (fun h => bits_and_u64_nat a0 (2 ^ L.length - 1) hs (hM64 h))
  have hlt : a0 &&& (2 ^ L.length - 1) < 2 ^ L.length := by
    have h1 : a0 &&& (2 ^ L.length - 1) ≤ 2 ^ L.length - 1 := Nat.and_le_right
    have h2 := Nat.two_pow_pos L.length
    omega
  have HLt := hid_of hlt
  generalize a0 &&& (2 ^ L.length - 1) = s at *
  have hs64 : L.length ≤ 12 → s < 18446744073709551616 := fun h => by have := pow_small h; omega
  have HS64 := hid_of hs64
  have HSS := hid_of (fun (hq : qk L need = 0) (p l : Nat) hp hl => spare_says (s := p) (l := l) hq hp hl HLt.out)
  have ho64 : L.length ≤ 12 → oth L.length s < 18446744073709551616 := fun h => by
    have := oth_lt (n := L.length) (s := s)
    have := pow_small h
    omega
  have HOE := hid_of (fun h => oth_eq (n := L.length) (s := s) h (hs64 h))
  have HEo := hid_of (fun h W hI => Enough_any v L need (oth L.length s) W (ho64 h) hI)
  have HEs := hid_of (fun h W hI => Enough_any v L need s W (hs64 h) hI)
  have HZs := hid_of (fun h W => size_any s W (hs64 h))
  have hz64 := sz_le s 64
  clear ho64 hs64 hM64 hlt
  generalize enE L need (oth L.length s) = e3 at *
  generalize enB L need (oth L.length s) = x3 at *
  generalize enE L need s = e4 at *
  generalize enB L need s = x4 at *
  generalize sz s 64 = z at *
  generalize oth L.length s = o at *
  generalize 2 ^ L.length - 1 = M at *
  obtain ⟨e1, he1⟩ : ∃ x, qk L need = x := ⟨_, rfl⟩
  rw [he1] at HSp HLe HQ HNo HSS
  clear he1
  obtain ⟨a, c, rfl⟩ := hL.shape
  have hl2 := hL.1
  clear hL
  go_enter Try.func5, Try.ntmps5
  go_wp2_with fail
  refine (HSp.out _ HI.out).mono ?_
  rintro e w1 ⟨p, rfl, hp, h⟩
  have HPp := hid_of hp
  have BB := hid_of (BB.out.trans (h.mono BB.out.size))
  have HI := hid_of ((HI.out.below h).mono h.size)
  clear h hp
  go_wp2_with fail
  refine (HLe.out _ HI.out).mono ?_
  rintro e w2 ⟨l, rfl, hp, h⟩
  have HPl := hid_of hp
  have BB := hid_of (BB.out.trans (h.mono BB.out.size))
  have HI := hid_of ((HI.out.below h).mono h.size)
  clear h hp
  go_wp2_with fail
  refine (begun_any _).mono ?_
  rintro e w3 ⟨rfl, h⟩
  have BB := hid_of (BB.out.trans (h.mono BB.out.size))
  have HI := hid_of ((HI.out.below h).mono h.size)
  clear h
  by_cases c1 : e1 = 0
  · have hl := (HQ.out c1).w.l2
    obtain ⟨r1, r2, r3, r4, r5, r6, r7⟩ := HSS.out c1 p l HPp.out HPl.out
    have HR3 := hid_of r3
    have HR4 := hid_of r4
    have hall := HAL.out hl
    have hoe := HOE.out hl
    have han := HAn.out hl
    subst c1 r1 r2
    clear r3 r4 HAL HOE HAn HSS HNo HQ HSp HLe
    go_wp2_with fail
    refine (HEo.out hl _ HI.out).mono ?_
    rintro e w4 ⟨rfl, h⟩
    have BB := hid_of (BB.out.trans (h.mono BB.out.size))
    have HI := hid_of ((HI.out.below h).mono h.size)
    clear h
    go_wp2_with fail
    refine (HEs.out hl _ HI.out).mono ?_
    rintro e w5 ⟨rfl, h⟩
    have BB := hid_of (BB.out.trans (h.mono BB.out.size))
    have HI := hid_of ((HI.out.below h).mono h.size)
    clear h
    go_wp2_with fail
    refine (HZs.out hl _).mono ?_
    rintro e w6 ⟨rfl, hw⟩
    subst hw
    clear hall hoe han
    have u1 : (p : Int) < (L.length : Int) := by omega
    have u2 : (1 : Int) ≤ (l : Int) := by omega
    have u3 : (p : Int) + (l : Int) ≤ (L.length : Int) := by omega
    by_cases d1 : z ≤ p
    · have hx := HR3.out d1
      subst hx
      have u4 : ¬ (p : Int) < (z : Int) := by omega
      by_cases d2 : z < l
      · have hx := HR4.out d2
        subst hx
        have u5 : ¬ (l : Int) ≤ (z : Int) := by omega
        go_wp2_with fail
        go_ret
        refine ⟨ret_true ?_, BB.out⟩
        simp
      · have u5 : (l : Int) ≤ (z : Int) := by omega
        go_wp2_with fail
        go_ret
        refine ⟨ret_true ?_, BB.out⟩
        simp
    · have u4 : (p : Int) < (z : Int) := by omega
      by_cases d2 : z < l
      · have hx := HR4.out d2
        subst hx
        have u5 : ¬ (l : Int) ≤ (z : Int) := by omega
        go_wp2_with fail
        go_ret
        refine ⟨ret_true ?_, BB.out⟩
        simp
      · have u5 : (l : Int) ≤ (z : Int) := by omega
        go_wp2_with fail
        go_ret
        refine ⟨ret_true ?_, BB.out⟩
        simp
  · obtain ⟨r1, r2⟩ := HNo.out c1 _ _ HPp.out HPl.out
    have t1 : (e1 != 0) = true := by rw [bne_iff_ne]; exact c1
    subst r1 r2
    go_wp2_with fail
    go_ret
    exact ⟨rfl, BB.out⟩
theorem walk (v : Value) (L : List Int) (need a : Int) (w : World) (hL : Is w.heap.size w v L) (wn : (Lit.int .i64 need).wf = true) (wa : (Lit.int .u64 a).wf = true) :
    Calls Try.prog 5 #[v, .int .i64 need, .int .u64 a] w fun e w' => e = .returned (.bool true) ∧ Below w.heap.size w w' := by
  obtain ⟨a1, a2⟩ := bounds_u64 wa
  obtain ⟨A, rfl⟩ := Int.eq_ofNat_of_zero_le a1
  exact walk' v L need A w (by omega) hL

set_option maxRecDepth 100000 in
theorem lifted (os : Os) (started : os.Started) (H : Type) (enc : TypeId × Value → H) :
    ReturnsInHanded {} Try.checked os 5 .any (Rows.quorumSpareSpec.pre6 enc Try.prog Try.f5 Rows.quorumSpareRow.domain false) (Rows.quorumSpareSpec.post enc Try.prog Try.f5 false true false false) := by
  refine returnsInHanded_of_change_sized (C := Try.checked) own started (by kernel_rfl) Try.func5
    (ChangeSpec.witness6 (enc := enc) (C := Try.checked) false ⟨#[], #[.slice none 0 0, .int .i64 0, .int .u64 0], []⟩ 8 (by kernel_rfl) (by kernel_rfl) (by kernel_rfl) (by kernel_rfl)) ?_
  intro W base args ds gs before hval0 hW hcnd hsz0 _
  have hsz : (DataW.weightsEach Try.prog (Try.f5.params.toList ++ Rows.quorumSpareSpec.plain.varTypes Try.prog) (ds ++ gs)).all (· ≤ reachBytes) = true := hsz0
  clear hsz0
  have hval : ∀ (j : Nat) t v, Try.f5.params[j]? = some t → args[j]? = some v → Value.okWide Try.prog W .any base t v := hval0
  have hW' := hW
  obtain ⟨p, q, hA0, hV, rfl, hfz, hnd⟩ := hW
  have hA : DataW.TrodAll enc Try.prog W 0 (fun _ => true) true Try.f5.params.toList args.toList ds p := hA0
  rw [Try.params5] at hA hval hsz
  obtain ⟨v0, vs0, d0, ds0, p0, q0, hargs, rfl, rfl, h0, r0⟩ := trodAll_cons hA
  obtain ⟨v1, vs1, d1, ds1, p1, q1, rfl, rfl, rfl, h1, r1⟩ := trodAll_cons r0
  obtain ⟨v2, vs2, d2, ds2, p2, q2, rfl, rfl, rfl, h2, r2⟩ := trodAll_cons r1
  obtain ⟨rfl, rfl, rfl⟩ := trodAll_nil r2
  obtain rfl : args = #[v0, v1, v2] := by cases args; simp_all
  obtain ⟨rfl, rfl⟩ := trodVars_none hV
  obtain ⟨a0, len0, cap0, rfl⟩ := okWide_slice Try.underlying22 (hval 0 22 v0 rfl rfl)
  have k0 := h0
  have lt0 : ∀ x ∈ p0, x.block < W.heap.size := by obtain ⟨m, hm⟩ := k0; exact DataW.trod_lt m _ _ _ hm
  obtain ⟨A0, w0⟩ : ∃ A, Is W.heap.size W (.slice a0 len0 cap0) A := by
    obtain ⟨fuel, hf⟩ := h0
    exact arg_is hf hsz (j := 0) rfl rfl
  obtain ⟨x1, rfl, rfl, rfl, w1⟩ := open_int Try.underlying3 (hval 1 3 v1 rfl rfl) h1
  obtain ⟨x2, rfl, rfl, rfl, w2⟩ := open_int Try.underlying23 (hval 2 23 v2 rfl rfl) h2
  clear hA0 hval0
  refine (walk _ A0 x1 x2 W w0 w1 w2).mono fun e W' ⟨he, bel⟩ => ?_
  subst he
  exact ⟨_, rfl, _, _, _, [], _, [], hW', trodAll_mk1 (shut_bool Try.underlying4 _), (trodAll_cons_mk (Below.trod laidOut (by kernel_rfl) (of_decide_eq_true (by kernel_rfl)) k0 bel lt0) (trodAll_cons_mk (shut_int Try.underlying3 w1) (trodAll_cons_mk (shut_int Try.underlying23 w2) trodAll_mk0))), rfl, bel.frame _, fun h => by cases h⟩

theorem over : Rows.quorumSpareRow.holds Try.pinned (OpenSpec.ofChange Rows.quorumSpareSpec) :=
  OpenClaim.holds_of_wide 5 Try.f5 rfl rfl rfl rfl rfl rfl rfl ⟨rfl, rfl, rfl, rfl, rfl⟩ rfl rfl rfl rfl rfl (by kernel_rfl) Try.func5 (by kernel_rfl)
    (of_decide_eq_true (by kernel_rfl)) (by unfold Func.isWrapper; first | (rw [if_pos (by decide +kernel)]; kernel_rfl) | (rw [if_neg (by decide +kernel)]; exact ⟨rfl, rfl⟩))
    (fun os started H enc _ => lifted os started H enc)

/-- ████ THE STATEMENT ████ -/
theorem proved : Rows.QuorumSpareSaid := over
#print axioms proved
end Go.Proofs.Ytegpniiokiejhab.quorumSpare
