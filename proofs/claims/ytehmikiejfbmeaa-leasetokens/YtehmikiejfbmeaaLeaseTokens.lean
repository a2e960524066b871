/- Whoever takes a lease from nobody, or another one, has a greater token; who only stays keeps its own. -/
import Derived.Test.YtehmikiejfbmeaaRows
import Derived.Test.YtehmikiejfbmeaaLz8
import Derived.Test.YtehmikiejfbmeaaZw
import Derived.WalkKit
import Derived.ProofKit
import Derived.OpenShut
import Derived.ShutString
import Derived.ChangeOld
import Derived.Below
import Derived.SizedLaws
namespace Go.Proofs.Ytehmikiejfbmeaa.leaseTokens
open Go.ChangeShapes Go.WideShapes Go.ChangeAt Go.RowKit
open Go.ChangeMaps (open_string shut_string)

theorem own : ownKnob Try.prog.godebug = none := by kernel_rfl
theorem laidOut : laidOutB Try.prog = true := by kernel_rfl

theorem run_tokens (h t k who now term : Int) : evV K8 noL Try.f5 [.agg ⟨[.int .i64 h, .int .i64 t, .int .i64 k]⟩, .int .i64 who, .int .i64 now, .int .i64 term] [] = tst (x3_take h t k who now term != (0 : Int)) (Out.done AE.ret { slots := [some (Value.bool true)], heap := [] }) (tst (x1_held h t k now != (0 : Int)) (Out.done AE.ret { slots := [some (Value.bool false)], heap := [] }) (tst (x_lc (x0_take h t k who now term) (x1_take h t k who now term) (x2_take h t k who now term) != (0 : Int)) (Out.done AE.ret { slots := [some (Value.bool false)], heap := [] }) (tst (x0_take h t k who now term != who) (Out.done AE.ret { slots := [some (Value.bool false)], heap := [] }) (tst (x0_held h t k now == who) (tst (x2_take h t k who now term == k) (Out.done AE.ret { slots := [some (Value.bool (decide (x1_take h t k who now term ≥ t)))], heap := [] }) (Out.done AE.ret { slots := [some (Value.bool false)], heap := [] })) (tst (x0_held h t k now == (0 : Int)) (Out.done AE.ret { slots := [some (Value.bool (x2_take h t k who now term == IntKind.wrap IntKind.i64 (k + (1 : Int))))], heap := [] }) (Out.done AE.ret { slots := [some (Value.bool false)], heap := [] })))))) := by kernel_rfl
theorem law_sat (cs0 : List Value) (x1 : Int) (x2 : Int) (x3 : Int) (_r0 : rngs leK cs0) (_r1 : (Lit.int .i64 x1).wf = true) (_r2 : (Lit.int .i64 x2).wf = true) (_r3 : (Lit.int .i64 x3).wf = true) : Bnd [.val (.agg ⟨norm leK cs0⟩), .val (.int .i64 x1), .val (.int .i64 x2), .val (.int .i64 x3)] → (evV K8 noL Try.f5 (regr [.one .val, .one .val, .one .val, .one .val] (canonA 0 [.val (.agg ⟨norm leK cs0⟩), .val (.int .i64 x1), .val (.int .i64 x2), .val (.int .i64 x3)])) (canonH [.val (.agg ⟨norm leK cs0⟩), .val (.int .i64 x1), .val (.int .i64 x2), .val (.int .i64 x3)])).sat fun _ S => S.slots = [some (.bool true)] := fun _ => by
  show (evV K8 noL Try.f5 [.agg ⟨[.int .i64 (intV (hdV cs0)), .int .i64 (intV (hdV (tlV cs0))), .int .i64 (intV (hdV (tlV (tlV cs0))))]⟩, .int .i64 x1, .int .i64 x2, .int .i64 x3] []).sat _
  generalize intV (hdV cs0) = h
  generalize intV (hdV (tlV cs0)) = t
  generalize intV (hdV (tlV (tlV cs0))) = k
  generalize x1 = who
  generalize x2 = now
  generalize x3 = term
  rw [run_tokens h t k who now term]
  obtain ⟨-, f1⟩ := take_f (take_spec h t k who now term)
  by_cases e0 : x3_take h t k who now term = 0
  rotate_left
  · exact sat_tst (fun _ => rfl) (fun h0 => absurd (bne_f h0) e0)
  obtain ⟨g0, g1, g2, g3, g4, g5, g6, g7, g8⟩ := f1 e0
  clear f1
  have q1 := held_f (held_spec h t k now) g7 g2
  have q2 := check_f (lc_spec (x0_take h t k who now term) (x1_take h t k who now term) (x2_take h t k who now term)) g1
  rw [wrap_next g7]
  unfold Good Tm Asked at *
  exact sat_tst (fun _ => rfl) (fun h0 => have c0 := bne_f h0; sat_tst (fun h1 => have c1 := bne_t h1; (by exfalso; omega)) (fun h1 => have c1 := bne_f h1; sat_tst (fun h2 => have c2 := bne_t h2; (by exfalso; omega)) (fun h2 => have c2 := bne_f h2; sat_tst (fun h3 => have c3 := bne_t h3; (by exfalso; omega)) (fun h3 => have c3 := bne_f h3; sat_tst (fun h4 => have c4 := beq_t h4; sat_tst (fun h5 => have c5 := beq_t h5; leaf_v (bt (decide_eq_true (by omega)))) (fun h5 => have c5 := beq_f h5; (by exfalso; omega))) (fun h4 => have c4 := beq_f h4; sat_tst (fun h5 => have c5 := beq_t h5; leaf_v (bt (t_beq (by omega)))) (fun h5 => have c5 := beq_f h5; (by exfalso; omega)))))))

theorem K8_P : K8.P = Try.prog := rfl
theorem walk (W : World) (cs0 : List Value) (rg0 : rngs leK cs0) (x1 : Int) (rg1 : (Lit.int .i64 x1).wf = true) (x2 : Int) (rg2 : (Lit.int .i64 x2).wf = true) (x3 : Int) (rg3 : (Lit.int .i64 x3).wf = true) : Calls Try.prog 5 #[.agg ⟨norm leK cs0⟩, .int .i64 x1, .int .i64 x2, .int .i64 x3] W fun e w' => e = .returned (.bool true) ∧ Below W.heap.size W w' := by
  rewrite [← K8_P]
  refine law_ok (W := W) K8_ok (L := noL) (f := 5) (fn := Try.f5) Try.func5 (no_loops rfl) (ks := [.one .val, .one .val, .one .val, .one .val]) (cas := [.val (.agg ⟨norm leK cs0⟩), .val (.int .i64 x1), .val (.int .i64 x2), .val (.int .i64 x3)]) (us := [.agg ⟨norm leK cs0⟩, .int .i64 x1, .int .i64 x2, .int .i64 x3]) (ful := [.agg ⟨norm leK cs0⟩, .int .i64 x1, .int .i64 x2, .int .i64 x3]) (r := .bool true) rfl rfl rfl ?_ (@law_sat cs0 x1 x2 x3 rg0 rg1 rg2 rg3)
  intro i c u hc hu
  match i, hc, hu with
  | 0, hc, hu => cases hc; cases hu; exact ⟨rfl, rfl⟩
  | 1, hc, hu => cases hc; cases hu; exact ⟨rfl, rfl⟩
  | 2, hc, hu => cases hc; cases hu; exact ⟨rfl, rfl⟩
  | 3, hc, hu => cases hc; cases hu; exact ⟨rfl, rfl⟩
  | i + 4, hc, hu => simp at hc

set_option maxRecDepth 100000 in
theorem lifted (os : Os) (started : os.Started) (H : Type) (enc : TypeId × Value → H) :
    ReturnsInHanded {} Try.checked os 5 .any (Rows.leaseTokensSpec.pre6 enc Try.prog Try.f5 Rows.leaseTokensRow.domain false) (Rows.leaseTokensSpec.post enc Try.prog Try.f5 false true false false) := by
  refine returnsInHanded_of_change_sized (C := Try.checked) own started (by kernel_rfl) Try.func5
    (ChangeSpec.witness6 (enc := enc) (C := Try.checked) false ⟨#[], #[.agg ⟨norm leK []⟩, .int .i64 0, .int .i64 0, .int .i64 0], []⟩ 8 (by kernel_rfl) (by kernel_rfl) (by kernel_rfl) (by kernel_rfl)) ?_
  intro W base args ds gs before hval0 hW hcnd hsz0 _
  have hsz : (DataW.weightsEach Try.prog (Try.f5.params.toList ++ Rows.leaseTokensSpec.plain.varTypes Try.prog) (ds ++ gs)).all (· ≤ reachBytes) = true := hsz0
  clear hsz0
  have hval : ∀ (j : Nat) t v, Try.f5.params[j]? = some t → args[j]? = some v → Value.okWide Try.prog W .any base t v := hval0
  have hW' := hW
  obtain ⟨p, q, hA0, hV, rfl, hfz, hnd⟩ := hW
  have hA : DataW.TrodAll enc Try.prog W 0 (fun _ => true) true Try.f5.params.toList args.toList ds p := hA0
  rw [Try.params5] at hA hval hsz
  obtain ⟨v0, vs0, d0, ds0, p0, q0, hargs, rfl, rfl, h0, r0⟩ := trodAll_cons hA
  obtain ⟨v1, vs1, d1, ds1, p1, q1, rfl, rfl, rfl, h1, r1⟩ := trodAll_cons r0
  obtain ⟨v2, vs2, d2, ds2, p2, q2, rfl, rfl, rfl, h2, r2⟩ := trodAll_cons r1
  obtain ⟨v3, vs3, d3, ds3, p3, q3, rfl, rfl, rfl, h3, r3⟩ := trodAll_cons r2
  obtain ⟨rfl, rfl, rfl⟩ := trodAll_nil r3
  obtain rfl : args = #[v0, v1, v2, v3] := by cases args; simp_all
  obtain ⟨rfl, rfl⟩ := trodVars_none hV
  have k0 := h0
  have lt0 : ∀ x ∈ p0, x.block < W.heap.size := by obtain ⟨m, hm⟩ := k0; exact DataW.trod_lt m _ _ _ hm
  obtain ⟨cs0, rfl, rg0⟩ := open_flatR (P := Try.prog) (sh := leK) (n := 9) Try.underlying23 (by kernel_rfl) (hval 0 23 v0 rfl rfl) h0
  obtain ⟨x1, rfl, rfl, rfl, w1⟩ := open_int Try.underlying3 (hval 1 3 v1 rfl rfl) h1
  obtain ⟨x2, rfl, rfl, rfl, w2⟩ := open_int Try.underlying3 (hval 2 3 v2 rfl rfl) h2
  obtain ⟨x3, rfl, rfl, rfl, w3⟩ := open_int Try.underlying3 (hval 3 3 v3 rfl rfl) h3
  clear hA0 hval0
  refine (walk W cs0 rg0 x1 w1 x2 w2 x3 w3).mono fun e W' ⟨he, bel⟩ => ?_
  subst he
  exact ⟨_, rfl, _, _, _, [], _, [], hW', trodAll_mk1 (shut_bool Try.underlying4 _), (trodAll_cons_mk (Below.trod laidOut (by kernel_rfl) (of_decide_eq_true (by kernel_rfl)) k0 bel lt0) (trodAll_cons_mk (shut_int Try.underlying3 w1) (trodAll_cons_mk (shut_int Try.underlying3 w2) (trodAll_cons_mk (shut_int Try.underlying3 w3) trodAll_mk0)))), rfl, bel.frame _, fun h => by cases h⟩

theorem over : Rows.leaseTokensRow.holds Try.pinned (OpenSpec.ofChange Rows.leaseTokensSpec) :=
  OpenClaim.holds_of_wide 5 Try.f5 rfl rfl rfl rfl rfl rfl rfl ⟨rfl, rfl, rfl, rfl, rfl⟩ rfl rfl rfl rfl rfl (by kernel_rfl) Try.func5 (by kernel_rfl)
    (of_decide_eq_true (by kernel_rfl)) (by unfold Func.isWrapper; first | (rw [if_pos (by decide +kernel)]; kernel_rfl) | (rw [if_neg (by decide +kernel)]; exact ⟨rfl, rfl⟩))
    (fun os started H enc _ => lifted os started H enc)

/-- ████ THE STATEMENT ████ -/
theorem proved : Rows.LeaseTokensSaid := over
#print axioms proved
end Go.Proofs.Ytehmikiejfbmeaa.leaseTokens
