/- Behind what one fence let through nobody of a lesser token gets through, in whatever order they come. -/
import Derived.Test.YtehmikiejfbmeaaRows
import Derived.Test.YtehmikiejfbmeaaLz9
import Derived.Test.YtehmikiejfbmeaaZw
import Derived.WalkKit
import Derived.ProofKit
import Derived.OpenShut
import Derived.ShutString
import Derived.ChangeOld
import Derived.Below
import Derived.SizedLaws
namespace Go.Proofs.Ytehmikiejfbmeaa.fenceRises
open Go.ChangeShapes Go.WideShapes Go.ChangeAt Go.RowKit
open Go.ChangeMaps (open_string shut_string)

theorem own : ownKnob Try.prog.godebug = none := by kernel_rfl
theorem laidOut : laidOutB Try.prog = true := by kernel_rfl

abbrev bO (b : Bool) : Out := .done .ret ⟨[some (.bool b)], []⟩
theorem run_rises (s i : Int) (m : Nat) (g : Nat → List Value) : evV K8 lFR Try.f7 [.agg ⟨[.int .i64 s]⟩, .slice (some ⟨0, 0, some 0⟩) m m, .int .i64 i] [.recs feK m g] =
    .ask (m = m ∧ m = m ∧ s = s ∧ (0 : Int) = 0 ∧ 25 = 25 ∧ m ≤ 140737488355328) (tst (decide (i < 0)) (bO true) (tst (decide (i ≥ (m : Int))) (bO true)
      (.ask (0 ≤ i ∧ i < (m : Int)) (.ask (i.toNat + 0 < m) (tst (decide (fS g s m ≥ intV (hdV (g (i.toNat + 0))))) (bO true) (tst (decide (fS g s m < 0)) (bO true)
        (.ask (0 ≤ i ∧ i < (m : Int)) (.ask (i.toNat + 0 < m) (tst (decide (intV (hdV (g (i.toNat + 0))) > 1000000)) (bO true) (bO (decide (fS g s m > 1000000)))))))))))) := by kernel_rfl
theorem law_sat (cs0 : List Value) (len1 : Nat) (g1 : Nat → List Value) (x2 : Int) (_r0 : rngs feK cs0) (_r1 : ∀ j, j < len1 → rngs feK (g1 j)) (_r2 : (Lit.int .i64 x2).wf = true) : Bnd [.val (.agg ⟨norm feK cs0⟩), .rows feK len1 g1, .val (.int .i64 x2)] → (evV K8 lFR Try.f7 (regr [.one .val, .one (.rows feK), .one .val] (canonA 0 [.val (.agg ⟨norm feK cs0⟩), .rows feK len1 g1, .val (.int .i64 x2)])) (canonH [.val (.agg ⟨norm feK cs0⟩), .rows feK len1 g1, .val (.int .i64 x2)])).sat fun _ S => S.slots = [some (.bool true)] := fun hb => by
  have hbm : len1 ≤ 140737488355328 := hb.1
  show (evV K8 lFR Try.f7 [.agg ⟨[.int .i64 (intV (hdV cs0))]⟩, .slice (some ⟨0, 0, some 0⟩) len1 len1, .int .i64 x2] [.recs feK len1 g1]).sat _
  generalize intV (hdV cs0) = s
  rw [run_rises]
  refine sat_ask ⟨rfl, rfl, rfl, rfl, rfl, hbm⟩ (sat_tst (fun _ => rfl) fun h1 => sat_tst (fun _ => rfl) fun h2 => ?_)
  have h1 := of_decide_eq_false h1
  have h2 := of_decide_eq_false h2
  have i1 : 0 ≤ x2 ∧ x2 < (len1 : Int) := ⟨by omega, by omega⟩
  have i2 : x2.toNat + 0 < len1 := by omega
  refine sat_ask i1 (sat_ask i2 (sat_tst (fun _ => rfl) fun h3 => sat_tst (fun _ => rfl) fun h4 => sat_ask i1 (sat_ask i2 (sat_tst (fun _ => rfl) fun h5 => ?_))))
  have h3 := of_decide_eq_false h3
  have h4 := of_decide_eq_false h4
  have h5 := of_decide_eq_false h5
  refine leaf_v (bt (decide_eq_true ?_))
  by_cases hs : Tm s
  · have := (fS_top (g := g1) hs len1).2 (x2.toNat + 0) i2
    have e : tk (g1 (x2.toNat + 0)) = intV (hdV (g1 (x2.toNat + 0))) := rfl
    omega
  · rw [fS_bad hs len1] at h3 h4 ⊢
    unfold Tm at hs
    omega

theorem K8_P : K8.P = Try.prog := rfl
theorem walk (W : World) (cs0 : List Value) (rg0 : rngs feK cs0) {a1 : Option Addr} (len1 cap1 : Nat) (g1 : Nat → List Value) (w1 : ArgOk W (.rows feK len1 g1) (.slice a1 len1 cap1)) (rg1 : ∀ j, j < len1 → rngs feK (g1 j)) (x2 : Int) (rg2 : (Lit.int .i64 x2).wf = true) : Calls Try.prog 7 #[.agg ⟨norm feK cs0⟩, .slice a1 len1 cap1, .int .i64 x2] W fun e w' => e = .returned (.bool true) ∧ Below W.heap.size W w' := by
  rewrite [← K8_P]
  refine law_ok (W := W) K8_ok (L := lFR) (f := 7) (fn := Try.f7) Try.func7 (one_loop (by kernel_rfl) lFR_ok) (ks := [.one .val, .one (.rows feK), .one .val]) (cas := [.val (.agg ⟨norm feK cs0⟩), .rows feK len1 g1, .val (.int .i64 x2)]) (us := [.agg ⟨norm feK cs0⟩, .slice a1 len1 cap1, .int .i64 x2]) (ful := [.agg ⟨norm feK cs0⟩, .slice a1 len1 cap1, .int .i64 x2]) (r := .bool true) rfl rfl rfl ?_ (@law_sat cs0 len1 g1 x2 rg0 rg1 rg2)
  intro i c u hc hu
  match i, hc, hu with
  | 0, hc, hu => cases hc; cases hu; exact ⟨rfl, rfl⟩
  | 1, hc, hu => cases hc; cases hu; exact w1
  | 2, hc, hu => cases hc; cases hu; exact ⟨rfl, rfl⟩
  | i + 3, hc, hu => simp at hc

set_option maxRecDepth 100000 in
theorem lifted (os : Os) (started : os.Started) (H : Type) (enc : TypeId × Value → H) :
    ReturnsInHanded {} Try.checked os 7 .any (Rows.fenceRisesSpec.pre6 enc Try.prog Try.f7 Rows.fenceRisesRow.domain false) (Rows.fenceRisesSpec.post enc Try.prog Try.f7 false true false false) := by
  refine returnsInHanded_of_change_sized (C := Try.checked) own started (by kernel_rfl) Try.func7
    (ChangeSpec.witness6 (enc := enc) (C := Try.checked) false ⟨#[], #[.agg ⟨norm feK []⟩, .slice none 0 0, .int .i64 0], []⟩ 8 (by kernel_rfl) (by kernel_rfl) (by kernel_rfl) (by kernel_rfl)) ?_
  intro W base args ds gs before hval0 hW hcnd hsz0 _
  have hsz : (DataW.weightsEach Try.prog (Try.f7.params.toList ++ Rows.fenceRisesSpec.plain.varTypes Try.prog) (ds ++ gs)).all (· ≤ reachBytes) = true := hsz0
  clear hsz0
  have hval : ∀ (j : Nat) t v, Try.f7.params[j]? = some t → args[j]? = some v → Value.okWide Try.prog W .any base t v := hval0
  have hW' := hW
  obtain ⟨p, q, hA0, hV, rfl, hfz, hnd⟩ := hW
  have hA : DataW.TrodAll enc Try.prog W 0 (fun _ => true) true Try.f7.params.toList args.toList ds p := hA0
  rw [Try.params7] at hA hval hsz
  obtain ⟨v0, vs0, d0, ds0, p0, q0, hargs, rfl, rfl, h0, r0⟩ := trodAll_cons hA
  obtain ⟨v1, vs1, d1, ds1, p1, q1, rfl, rfl, rfl, h1, r1⟩ := trodAll_cons r0
  obtain ⟨v2, vs2, d2, ds2, p2, q2, rfl, rfl, rfl, h2, r2⟩ := trodAll_cons r1
  obtain ⟨rfl, rfl, rfl⟩ := trodAll_nil r2
  obtain rfl : args = #[v0, v1, v2] := by cases args; simp_all
  obtain ⟨rfl, rfl⟩ := trodVars_none hV
  have k0 := h0
  have lt0 : ∀ x ∈ p0, x.block < W.heap.size := by obtain ⟨m, hm⟩ := k0; exact DataW.trod_lt m _ _ _ hm
  obtain ⟨cs0, rfl, rg0⟩ := open_flatR (P := Try.prog) (sh := feK) (n := 9) Try.underlying25 (by kernel_rfl) (hval 0 25 v0 rfl rfl) h0
  obtain ⟨a1, len1, cap1, rfl⟩ := okWide_slice Try.underlying39 (hval 1 39 v1 rfl rfl)
  have k1 := h1
  have lt1 : ∀ x ∈ p1, x.block < W.heap.size := by obtain ⟨m, hm⟩ := k1; exact DataW.trod_lt m _ _ _ hm
  obtain ⟨g1, w1, rg1⟩ : ∃ g, ArgOk W (.rows feK len1 g) (.slice a1 len1 cap1) ∧ ∀ j, j < len1 → rngs feK (g j) := by
    obtain ⟨fuel, hf⟩ := h1
    exact arg_rowsR (P := Try.prog) (sh := feK) (n := 9) (e := 3) (j := 1) Try.underlying39 (by kernel_rfl) (by kernel_rfl) (by decide) (of_decide_eq_true (by kernel_rfl)) hf hsz rfl rfl
  obtain ⟨x2, rfl, rfl, rfl, w2⟩ := open_int Try.underlying3 (hval 2 3 v2 rfl rfl) h2
  clear hA0 hval0
  refine (walk W cs0 rg0 len1 cap1 g1 w1 rg1 x2 w2).mono fun e W' ⟨he, bel⟩ => ?_
  subst he
  exact ⟨_, rfl, _, _, _, [], _, [], hW', trodAll_mk1 (shut_bool Try.underlying4 _), (trodAll_cons_mk (Below.trod laidOut (by kernel_rfl) (of_decide_eq_true (by kernel_rfl)) k0 bel lt0) (trodAll_cons_mk (Below.trod laidOut (by kernel_rfl) (of_decide_eq_true (by kernel_rfl)) k1 bel lt1) (trodAll_cons_mk (shut_int Try.underlying3 w2) trodAll_mk0))), rfl, bel.frame _, fun h => by cases h⟩

theorem over : Rows.fenceRisesRow.holds Try.pinned (OpenSpec.ofChange Rows.fenceRisesSpec) :=
  OpenClaim.holds_of_wide 7 Try.f7 rfl rfl rfl rfl rfl rfl rfl ⟨rfl, rfl, rfl, rfl, rfl⟩ rfl rfl rfl rfl rfl (by kernel_rfl) Try.func7 (by kernel_rfl)
    (of_decide_eq_true (by kernel_rfl)) (by unfold Func.isWrapper; first | (rw [if_pos (by decide +kernel)]; kernel_rfl) | (rw [if_neg (by decide +kernel)]; exact ⟨rfl, rfl⟩))
    (fun os started H enc _ => lifted os started H enc)

/-- ████ THE STATEMENT ████ -/
theorem proved : Rows.FenceRisesSaid := over
#print axioms proved
end Go.Proofs.Ytehmikiejfbmeaa.fenceRises
