/- Of members in a set and those that are not at most one lot is a majority: EpochMajor returns true for every epoch and all sets, and leaves its arguments alone; no condition. -/
import Derived.Test.YtnpdpbiikejflaaRows
import Derived.Test.YtnpdpbiikejflaaEk
import Derived.Test.YtnpdpbiikejflaaZw
import Derived.WalkKit
import Derived.ProofKit
import Derived.OpenShut
import Derived.ShutString
import Derived.ChangeOld
import Derived.Below
import Derived.SizedLaws
namespace Go.Proofs.Ytnpdpbiikejflaa.epochMajor
open Go.ChangeShapes Go.WideShapes Go.ChangeAt Go.RowKit
open Go.ChangeMaps (open_string shut_string)

theorem own : ownKnob Try.prog.godebug = none := by kernel_rfl
theorem laidOut : laidOutB Try.prog = true := by kernel_rfl

abbrev tailO (x : Int) (p q : Bool) : Out := tst p (bO true) (tst q (bO true) (.ask (aOc [.val (.int .u64 x)]) (.ask ((2 : Int) ≠ 0 ∧ IntKind.i64 = IntKind.i64) (bO (Int.tmod ((pc x.toNat : Nat) : Int) 2 == 0)))))
abbrev eqO (n x a : Int) : Out := .ask (mA n x (andI a x)) (tst (mjB x (andI a x) == mjB x a) (tailO x (mjB x a) (mjB x (notI a))) (bO false))
abbrev orO (n x a b : Int) : Out := tst (!mjB x a) (eqO n x a) (.ask (mA n x (orI a b)) (tst (mjB x (orI a b)) (eqO n x a) (bO false)))
theorem run_major (n x a b : Int) : evV K18 noL Try.f6 [.agg ⟨[.int .i64 n, .int .u64 x]⟩, .int .u64 a, .int .u64 b] [] =
    .ask (mA n x a) (.ask (mA n x (notI a)) (tst (mjB x a) (tst (!mjB x (notI a)) (orO n x a b) (bO false)) (orO n x a b))) := by kernel_rfl
theorem law_sat (cs0 : List Value) (x1 x2 : Int) (r0 : rngs ekK cs0) (r1 : (Lit.int .u64 x1).wf = true) (r2 : (Lit.int .u64 x2).wf = true) : Bnd [.val (.agg ⟨norm ekK cs0⟩), .val (.int .u64 x1), .val (.int .u64 x2)] → (evV K18 noL Try.f6 (canonA 0 [.val (.agg ⟨norm ekK cs0⟩), .val (.int .u64 x1), .val (.int .u64 x2)]) (canonH [.val (.agg ⟨norm ekK cs0⟩), .val (.int .u64 x1), .val (.int .u64 x2)])).sat fun _ S => S.slots = [some (.bool true)] := fun _ => by
  have hx : U (me cs0) := U_wf r0.2.1
  have ha := U_wf r1
  have hb := U_wf r2
  show (evV K18 noL Try.f6 [.agg ⟨[.int .i64 (no cs0), .int .u64 (me cs0)]⟩, .int .u64 x1, .int .u64 x2] []).sat _
  generalize no cs0 = n
  revert hx
  generalize me cs0 = x
  intro hx
  rw [run_major]
  obtain ⟨hn, en⟩ := notI_U ha
  have eo := orI_U ha hb
  have ea := andI_U ha hx
  have h1 := pc_parts x.toNat x1.toNat
  have h2 := pc_more x.toNat x1.toNat x2.toNat
  have h3 := and_self2 x.toNat x1.toNat
  have m1 : mjB x (andI x1 x) = mjB x x1 := by unfold mjB; rw [ea, h3]
  have big : (eqO n x x1).sat fun _ S => S.slots = [some (.bool true)] := by
    refine sat_ask ⟨hx, wrap_U _⟩ ?_
    rw [m1, show (mjB x x1 == mjB x x1) = true by simp]
    refine sat_tst (fun _ => ?_) fun h => by cases h
    refine sat_tst (fun _ => rfl) fun e1 => sat_tst (fun _ => rfl) fun e2 => sat_ask hx (sat_ask ⟨by decide, rfl⟩ (ret_b ?_))
    have e1 := of_decide_eq_false e1
    have e2 := of_decide_eq_false e2
    rw [en] at e2
    have : pc x.toNat % 2 = 0 := by omega
    have e3 : Int.tmod ((pc x.toNat : Nat) : Int) 2 = ((pc x.toNat % 2 : Nat) : Int) := rfl
    rw [e3, this]
    rfl
  have orS : (orO n x x1 x2).sat fun _ S => S.slots = [some (.bool true)] := by
    refine sat_tst (fun _ => big) fun e1 => sat_ask ⟨hx, wrap_U _⟩ (sat_tst (fun _ => big) fun e2 => ?_)
    have e1 : mjB x x1 = true := by simpa using e1
    have e1 := of_decide_eq_true e1
    have e2 := of_decide_eq_false e2
    rw [eo] at e2
    omega
  refine sat_ask ⟨hx, ha⟩ (sat_ask ⟨hx, hn⟩ (sat_tst (fun e1 => sat_tst (fun _ => orS) fun e2 => ?_) fun _ => orS))
  have e2 : mjB x (notI x1) = true := by simpa using e2
  have e1 := of_decide_eq_true e1
  have e2 := of_decide_eq_true e2
  rw [en] at e2
  omega

theorem K18_P : K18.P = Try.prog := rfl
theorem walk (W : World) (cs0 : List Value) (rg0 : rngs ekK cs0) (x1 : Int) (rg1 : (Lit.int .u64 x1).wf = true) (x2 : Int) (rg2 : (Lit.int .u64 x2).wf = true) : Calls Try.prog 6 #[.agg ⟨norm ekK cs0⟩, .int .u64 x1, .int .u64 x2] W fun e w' => e = .returned (.bool true) ∧ Below W.heap.size W w' := by
  rewrite [← K18_P]
  refine law_ok (W := W) K18_ok (L := noL) (f := 6) (fn := Try.f6) Try.func6 (no_loops rfl) (ks := [.one .val, .one .val, .one .val]) (cas := [.val (.agg ⟨norm ekK cs0⟩), .val (.int .u64 x1), .val (.int .u64 x2)]) (us := [.agg ⟨norm ekK cs0⟩, .int .u64 x1, .int .u64 x2]) (ful := [.agg ⟨norm ekK cs0⟩, .int .u64 x1, .int .u64 x2]) (r := .bool true) rfl rfl rfl ?_ (@law_sat cs0 x1 x2 rg0 rg1 rg2)
  intro i c u hc hu
  match i, hc, hu with
  | 0, hc, hu => cases hc; cases hu; exact ⟨rfl, rfl⟩
  | 1, hc, hu => cases hc; cases hu; exact ⟨rfl, rfl⟩
  | 2, hc, hu => cases hc; cases hu; exact ⟨rfl, rfl⟩
  | i + 3, hc, hu => simp at hc

set_option maxRecDepth 100000 in
theorem lifted (os : Os) (started : os.Started) (H : Type) (enc : TypeId × Value → H) :
    ReturnsInHanded {} Try.checked os 6 .any (Rows.epochMajorSpec.pre6 enc Try.prog Try.f6 Rows.epochMajorRow.domain false) (Rows.epochMajorSpec.post enc Try.prog Try.f6 false true false false) := by
  refine returnsInHanded_of_change_sized (C := Try.checked) own started (by kernel_rfl) Try.func6
    (ChangeSpec.witness6 (enc := enc) (C := Try.checked) false ⟨#[], #[.agg ⟨norm ekK []⟩, .int .u64 0, .int .u64 0], []⟩ 8 (by kernel_rfl) (by kernel_rfl) (by kernel_rfl) (by kernel_rfl)) ?_
  intro W base args ds gs before hval0 hW hcnd hsz0 _
  have hsz : (DataW.weightsEach Try.prog (Try.f6.params.toList ++ Rows.epochMajorSpec.plain.varTypes Try.prog) (ds ++ gs)).all (· ≤ reachBytes) = true := hsz0
  clear hsz0
  have hval : ∀ (j : Nat) t v, Try.f6.params[j]? = some t → args[j]? = some v → Value.okWide Try.prog W .any base t v := hval0
  have hW' := hW
  obtain ⟨p, q, hA0, hV, rfl, hfz, hnd⟩ := hW
  have hA : DataW.TrodAll enc Try.prog W 0 (fun _ => true) true Try.f6.params.toList args.toList ds p := hA0
  rw [Try.params6] at hA hval hsz
  obtain ⟨v0, vs0, d0, ds0, p0, q0, hargs, rfl, rfl, h0, r0⟩ := trodAll_cons hA
  obtain ⟨v1, vs1, d1, ds1, p1, q1, rfl, rfl, rfl, h1, r1⟩ := trodAll_cons r0
  obtain ⟨v2, vs2, d2, ds2, p2, q2, rfl, rfl, rfl, h2, r2⟩ := trodAll_cons r1
  obtain ⟨rfl, rfl, rfl⟩ := trodAll_nil r2
  obtain rfl : args = #[v0, v1, v2] := by cases args; simp_all
  obtain ⟨rfl, rfl⟩ := trodVars_none hV
  have k0 := h0
  have lt0 : ∀ x ∈ p0, x.block < W.heap.size := by obtain ⟨m, hm⟩ := k0; exact DataW.trod_lt m _ _ _ hm
  obtain ⟨cs0, rfl, rg0⟩ := open_flatR (P := Try.prog) (sh := ekK) (n := 9) Try.underlying25 (by kernel_rfl) (hval 0 25 v0 rfl rfl) h0
  obtain ⟨x1, rfl, rfl, rfl, w1⟩ := open_int Try.underlying23 (hval 1 23 v1 rfl rfl) h1
  obtain ⟨x2, rfl, rfl, rfl, w2⟩ := open_int Try.underlying23 (hval 2 23 v2 rfl rfl) h2
  clear hA0 hval0
  refine (walk W cs0 rg0 x1 w1 x2 w2).mono fun e W' ⟨he, bel⟩ => ?_
  subst he
  exact ⟨_, rfl, _, _, _, [], _, [], hW', trodAll_mk1 (shut_bool Try.underlying4 _), (trodAll_cons_mk (Below.trod laidOut (by kernel_rfl) (of_decide_eq_true (by kernel_rfl)) k0 bel lt0) (trodAll_cons_mk (shut_int Try.underlying23 w1) (trodAll_cons_mk (shut_int Try.underlying23 w2) trodAll_mk0))), rfl, bel.frame _, fun h => by cases h⟩

theorem over : Rows.epochMajorRow.holds Try.pinned (OpenSpec.ofChange Rows.epochMajorSpec) :=
  OpenClaim.holds_of_wide 6 Try.f6 rfl rfl rfl rfl rfl rfl rfl ⟨rfl, rfl, rfl, rfl, rfl⟩ rfl rfl rfl rfl rfl (by kernel_rfl) Try.func6 (by kernel_rfl)
    (of_decide_eq_true (by kernel_rfl)) (by unfold Func.isWrapper; first | (rw [if_pos (by decide +kernel)]; kernel_rfl) | (rw [if_neg (by decide +kernel)]; exact ⟨rfl, rfl⟩))
    (fun os started H enc _ => lifted os started H enc)

/-- ████ THE STATEMENT ████ -/
theorem proved : Rows.EpochMajorSaid := over
#print axioms proved
end Go.Proofs.Ytnpdpbiikejflaa.epochMajor
