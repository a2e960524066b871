/- No two hold a lease at once: whoever takes it holds it from then on till its term is over, and nobody else can take it before. -/
import Derived.Test.YtehmikiejfbmeaaRows
import Derived.Test.YtehmikiejfbmeaaLz8
import Derived.Test.YtehmikiejfbmeaaZw
import Derived.WalkKit
import Derived.ProofKit
import Derived.OpenShut
import Derived.ShutString
import Derived.ChangeOld
import Derived.Below
import Derived.SizedLaws
namespace Go.Proofs.Ytehmikiejfbmeaa.leaseOne
open Go.ChangeShapes Go.WideShapes Go.ChangeAt Go.RowKit
open Go.ChangeMaps (open_string shut_string)

theorem own : ownKnob Try.prog.godebug = none := by kernel_rfl
theorem laidOut : laidOutB Try.prog = true := by kernel_rfl

theorem run_one (h t k who now term other later span : Int) : evV K8 noL Try.f4 [.agg ⟨[.int .i64 h, .int .i64 t, .int .i64 k]⟩, .int .i64 who, .int .i64 now, .int .i64 term, .int .i64 other, .int .i64 later, .int .i64 span] [] = tst (x3_take h t k who now term != (0 : Int)) (Out.done AE.ret { slots := [some (Value.bool (bif true then decide (x0_take h t k who now term = (0 : Int) ∧ x1_take h t k who now term = (0 : Int) ∧ x2_take h t k who now term = (0 : Int)) else !decide (x0_take h t k who now term = (0 : Int) ∧ x1_take h t k who now term = (0 : Int) ∧ x2_take h t k who now term = (0 : Int))))], heap := [] }) (tst (x1_held (x0_take h t k who now term) (x1_take h t k who now term) (x2_take h t k who now term) now != (0 : Int)) (Out.done AE.ret { slots := [some (Value.bool false)], heap := [] }) (tst (x0_held (x0_take h t k who now term) (x1_take h t k who now term) (x2_take h t k who now term) now != who) (tst (now != (1000000 : Int)) (Out.done AE.ret { slots := [some (Value.bool false)], heap := [] }) (tst (decide (x1_take h t k who now term < if IntKind.wrap IntKind.i64 (now + term) < (1000000 : Int) then IntKind.wrap IntKind.i64 (now + term) else (1000000 : Int))) (Out.done AE.ret { slots := [some (Value.bool false)], heap := [] }) (tst (decide (later < now)) (Out.done AE.ret { slots := [some (Value.bool true)], heap := [] }) (tst (decide (later ≥ x1_take h t k who now term)) (Out.done AE.ret { slots := [some (Value.bool true)], heap := [] }) (tst (other == who) (Out.done AE.ret { slots := [some (Value.bool true)], heap := [] }) (tst (x3_take (x0_take h t k who now term) (x1_take h t k who now term) (x2_take h t k who now term) other later span != (0 : Int)) (tst (x1_held (x0_take h t k who now term) (x1_take h t k who now term) (x2_take h t k who now term) later == (0 : Int)) (Out.done AE.ret { slots := [some (Value.bool (x0_held (x0_take h t k who now term) (x1_take h t k who now term) (x2_take h t k who now term) later == who))], heap := [] }) (Out.done AE.ret { slots := [some (Value.bool false)], heap := [] })) (Out.done AE.ret { slots := [some (Value.bool false)], heap := [] }))))))) (tst (decide (x1_take h t k who now term < if IntKind.wrap IntKind.i64 (now + term) < (1000000 : Int) then IntKind.wrap IntKind.i64 (now + term) else (1000000 : Int))) (Out.done AE.ret { slots := [some (Value.bool false)], heap := [] }) (tst (decide (later < now)) (Out.done AE.ret { slots := [some (Value.bool true)], heap := [] }) (tst (decide (later ≥ x1_take h t k who now term)) (Out.done AE.ret { slots := [some (Value.bool true)], heap := [] }) (tst (other == who) (Out.done AE.ret { slots := [some (Value.bool true)], heap := [] }) (tst (x3_take (x0_take h t k who now term) (x1_take h t k who now term) (x2_take h t k who now term) other later span != (0 : Int)) (tst (x1_held (x0_take h t k who now term) (x1_take h t k who now term) (x2_take h t k who now term) later == (0 : Int)) (Out.done AE.ret { slots := [some (Value.bool (x0_held (x0_take h t k who now term) (x1_take h t k who now term) (x2_take h t k who now term) later == who))], heap := [] }) (Out.done AE.ret { slots := [some (Value.bool false)], heap := [] })) (Out.done AE.ret { slots := [some (Value.bool false)], heap := [] })))))))) := by kernel_rfl
theorem law_sat (cs0 : List Value) (x1 : Int) (x2 : Int) (x3 : Int) (x4 : Int) (x5 : Int) (x6 : Int) (_r0 : rngs leK cs0) (_r1 : (Lit.int .i64 x1).wf = true) (_r2 : (Lit.int .i64 x2).wf = true) (_r3 : (Lit.int .i64 x3).wf = true) (_r4 : (Lit.int .i64 x4).wf = true) (_r5 : (Lit.int .i64 x5).wf = true) (_r6 : (Lit.int .i64 x6).wf = true) : Bnd [.val (.agg ⟨norm leK cs0⟩), .val (.int .i64 x1), .val (.int .i64 x2), .val (.int .i64 x3), .val (.int .i64 x4), .val (.int .i64 x5), .val (.int .i64 x6)] → (evV K8 noL Try.f4 (regr [.one .val, .one .val, .one .val, .one .val, .one .val, .one .val, .one .val] (canonA 0 [.val (.agg ⟨norm leK cs0⟩), .val (.int .i64 x1), .val (.int .i64 x2), .val (.int .i64 x3), .val (.int .i64 x4), .val (.int .i64 x5), .val (.int .i64 x6)])) (canonH [.val (.agg ⟨norm leK cs0⟩), .val (.int .i64 x1), .val (.int .i64 x2), .val (.int .i64 x3), .val (.int .i64 x4), .val (.int .i64 x5), .val (.int .i64 x6)])).sat fun _ S => S.slots = [some (.bool true)] := fun _ => by
  show (evV K8 noL Try.f4 [.agg ⟨[.int .i64 (intV (hdV cs0)), .int .i64 (intV (hdV (tlV cs0))), .int .i64 (intV (hdV (tlV (tlV cs0))))]⟩, .int .i64 x1, .int .i64 x2, .int .i64 x3, .int .i64 x4, .int .i64 x5, .int .i64 x6] []).sat _
  generalize intV (hdV cs0) = h
  generalize intV (hdV (tlV cs0)) = t
  generalize intV (hdV (tlV (tlV cs0))) = k
  generalize x1 = who
  generalize x2 = now
  generalize x3 = term
  generalize x4 = other
  generalize x5 = later
  generalize x6 = span
  rw [run_one h t k who now term other later span]
  obtain ⟨f0, f1⟩ := take_f (take_spec h t k who now term)
  have f2 := held_spec (x0_take h t k who now term) (x1_take h t k who now term) (x2_take h t k who now term) now
  have f3 := held_spec (x0_take h t k who now term) (x1_take h t k who now term) (x2_take h t k who now term) later
  have f4 := take_spec (x0_take h t k who now term) (x1_take h t k who now term) (x2_take h t k who now term) other later span
  by_cases e0 : x3_take h t k who now term = 0
  rotate_left
  · have e1 := f0 e0
    refine sat_tst (fun _ => leaf_v (bt (decide_eq_true e1))) (fun h0 => absurd (bne_f h0) e0)
  obtain ⟨g0, g1, g2, g3, g4, g5, g6, g7, g8⟩ := f1 e0
  clear f0 f1
  have q2 := held_f f2 g1 g2
  have q4 := take_no f4
  have q3 := fun hl => held_f f3 g1 hl
  rw [wrap_sum g2 g3.2.2]
  have q5 : Least (now + term) 1000000 (if now + term < 1000000 then now + term else 1000000) := least_of
  generalize (if now + term < 1000000 then now + term else 1000000) = mm at q5 ⊢
  have q3' : now ≤ later → later < x1_take h t k who now term → x1_held (x0_take h t k who now term) (x1_take h t k who now term) (x2_take h t k who now term) later = 0 ∧ x0_held (x0_take h t k who now term) (x1_take h t k who now term) (x2_take h t k who now term) later = x0_take h t k who now term := fun h1 h2 => by
    have hl : Tm later := by unfold Tm at *; unfold Good at g1; omega
    exact ⟨(q3 hl).1, (q3 hl).2.1 h2⟩
  clear q3 f2 f3 f4
  unfold Good Tm Asked Least at *
  exact sat_tst (fun h0 => have c0 := bne_t h0; leaf_v (bt (decide_eq_true (by omega)))) (fun h0 => have c0 := bne_f h0; sat_tst (fun h1 => have c1 := bne_t h1; (by exfalso; omega)) (fun h1 => have c1 := bne_f h1; sat_tst (fun h2 => have c2 := bne_t h2; sat_tst (fun h3 => have c3 := bne_t h3; (by exfalso; omega)) (fun h3 => have c3 := bne_f h3; sat_tst (fun h4 => have c4 := of_decide_eq_true h4; (by exfalso; omega)) (fun h4 => have c4 := of_decide_eq_false h4; sat_tst (fun _ => rfl) (fun h5 => have c5 := of_decide_eq_false h5; sat_tst (fun _ => rfl) (fun h6 => have c6 := of_decide_eq_false h6; sat_tst (fun _ => rfl) (fun h7 => have c7 := beq_f h7; sat_tst (fun h8 => have c8 := bne_t h8; sat_tst (fun h9 => have c9 := beq_t h9; leaf_v (bt (t_beq (by omega)))) (fun h9 => have c9 := beq_f h9; (by exfalso; omega))) (fun h8 => have c8 := bne_f h8; (by exfalso; omega)))))))) (fun h2 => have c2 := bne_f h2; sat_tst (fun h3 => have c3 := of_decide_eq_true h3; (by exfalso; omega)) (fun h3 => have c3 := of_decide_eq_false h3; sat_tst (fun _ => rfl) (fun h4 => have c4 := of_decide_eq_false h4; sat_tst (fun _ => rfl) (fun h5 => have c5 := of_decide_eq_false h5; sat_tst (fun _ => rfl) (fun h6 => have c6 := beq_f h6; sat_tst (fun h7 => have c7 := bne_t h7; sat_tst (fun h8 => have c8 := beq_t h8; leaf_v (bt (t_beq (by omega)))) (fun h8 => have c8 := beq_f h8; (by exfalso; omega))) (fun h7 => have c7 := bne_f h7; (by exfalso; omega)))))))))

theorem K8_P : K8.P = Try.prog := rfl
theorem walk (W : World) (cs0 : List Value) (rg0 : rngs leK cs0) (x1 : Int) (rg1 : (Lit.int .i64 x1).wf = true) (x2 : Int) (rg2 : (Lit.int .i64 x2).wf = true) (x3 : Int) (rg3 : (Lit.int .i64 x3).wf = true) (x4 : Int) (rg4 : (Lit.int .i64 x4).wf = true) (x5 : Int) (rg5 : (Lit.int .i64 x5).wf = true) (x6 : Int) (rg6 : (Lit.int .i64 x6).wf = true) : Calls Try.prog 4 #[.agg ⟨norm leK cs0⟩, .int .i64 x1, .int .i64 x2, .int .i64 x3, .int .i64 x4, .int .i64 x5, .int .i64 x6] W fun e w' => e = .returned (.bool true) ∧ Below W.heap.size W w' := by
  rewrite [← K8_P]
  refine law_ok (W := W) K8_ok (L := noL) (f := 4) (fn := Try.f4) Try.func4 (no_loops rfl) (ks := [.one .val, .one .val, .one .val, .one .val, .one .val, .one .val, .one .val]) (cas := [.val (.agg ⟨norm leK cs0⟩), .val (.int .i64 x1), .val (.int .i64 x2), .val (.int .i64 x3), .val (.int .i64 x4), .val (.int .i64 x5), .val (.int .i64 x6)]) (us := [.agg ⟨norm leK cs0⟩, .int .i64 x1, .int .i64 x2, .int .i64 x3, .int .i64 x4, .int .i64 x5, .int .i64 x6]) (ful := [.agg ⟨norm leK cs0⟩, .int .i64 x1, .int .i64 x2, .int .i64 x3, .int .i64 x4, .int .i64 x5, .int .i64 x6]) (r := .bool true) rfl rfl rfl ?_ (@law_sat cs0 x1 x2 x3 x4 x5 x6 rg0 rg1 rg2 rg3 rg4 rg5 rg6)
  intro i c u hc hu
  match i, hc, hu with
  | 0, hc, hu => cases hc; cases hu; exact ⟨rfl, rfl⟩
  | 1, hc, hu => cases hc; cases hu; exact ⟨rfl, rfl⟩
  | 2, hc, hu => cases hc; cases hu; exact ⟨rfl, rfl⟩
  | 3, hc, hu => cases hc; cases hu; exact ⟨rfl, rfl⟩
  | 4, hc, hu => cases hc; cases hu; exact ⟨rfl, rfl⟩
  | 5, hc, hu => cases hc; cases hu; exact ⟨rfl, rfl⟩
  | 6, hc, hu => cases hc; cases hu; exact ⟨rfl, rfl⟩
  | i + 7, hc, hu => simp at hc

set_option maxRecDepth 100000 in
theorem lifted (os : Os) (started : os.Started) (H : Type) (enc : TypeId × Value → H) :
    ReturnsInHanded {} Try.checked os 4 .any (Rows.leaseOneSpec.pre6 enc Try.prog Try.f4 Rows.leaseOneRow.domain false) (Rows.leaseOneSpec.post enc Try.prog Try.f4 false true false false) := by
  refine returnsInHanded_of_change_sized (C := Try.checked) own started (by kernel_rfl) Try.func4
    (ChangeSpec.witness6 (enc := enc) (C := Try.checked) false ⟨#[], #[.agg ⟨norm leK []⟩, .int .i64 0, .int .i64 0, .int .i64 0, .int .i64 0, .int .i64 0, .int .i64 0], []⟩ 8 (by kernel_rfl) (by kernel_rfl) (by kernel_rfl) (by kernel_rfl)) ?_
  intro W base args ds gs before hval0 hW hcnd hsz0 _
  have hsz : (DataW.weightsEach Try.prog (Try.f4.params.toList ++ Rows.leaseOneSpec.plain.varTypes Try.prog) (ds ++ gs)).all (· ≤ reachBytes) = true := hsz0
  clear hsz0
  have hval : ∀ (j : Nat) t v, Try.f4.params[j]? = some t → args[j]? = some v → Value.okWide Try.prog W .any base t v := hval0
  have hW' := hW
  obtain ⟨p, q, hA0, hV, rfl, hfz, hnd⟩ := hW
  have hA : DataW.TrodAll enc Try.prog W 0 (fun _ => true) true Try.f4.params.toList args.toList ds p := hA0
  rw [Try.params4] at hA hval hsz
  obtain ⟨v0, vs0, d0, ds0, p0, q0, hargs, rfl, rfl, h0, r0⟩ := trodAll_cons hA
  obtain ⟨v1, vs1, d1, ds1, p1, q1, rfl, rfl, rfl, h1, r1⟩ := trodAll_cons r0
  obtain ⟨v2, vs2, d2, ds2, p2, q2, rfl, rfl, rfl, h2, r2⟩ := trodAll_cons r1
  obtain ⟨v3, vs3, d3, ds3, p3, q3, rfl, rfl, rfl, h3, r3⟩ := trodAll_cons r2
  obtain ⟨v4, vs4, d4, ds4, p4, q4, rfl, rfl, rfl, h4, r4⟩ := trodAll_cons r3
  obtain ⟨v5, vs5, d5, ds5, p5, q5, rfl, rfl, rfl, h5, r5⟩ := trodAll_cons r4
  obtain ⟨v6, vs6, d6, ds6, p6, q6, rfl, rfl, rfl, h6, r6⟩ := trodAll_cons r5
  obtain ⟨rfl, rfl, rfl⟩ := trodAll_nil r6
  obtain rfl : args = #[v0, v1, v2, v3, v4, v5, v6] := by cases args; simp_all
  obtain ⟨rfl, rfl⟩ := trodVars_none hV
  have k0 := h0
  have lt0 : ∀ x ∈ p0, x.block < W.heap.size := by obtain ⟨m, hm⟩ := k0; exact DataW.trod_lt m _ _ _ hm
  obtain ⟨cs0, rfl, rg0⟩ := open_flatR (P := Try.prog) (sh := leK) (n := 9) Try.underlying23 (by kernel_rfl) (hval 0 23 v0 rfl rfl) h0
  obtain ⟨x1, rfl, rfl, rfl, w1⟩ := open_int Try.underlying3 (hval 1 3 v1 rfl rfl) h1
  obtain ⟨x2, rfl, rfl, rfl, w2⟩ := open_int Try.underlying3 (hval 2 3 v2 rfl rfl) h2
  obtain ⟨x3, rfl, rfl, rfl, w3⟩ := open_int Try.underlying3 (hval 3 3 v3 rfl rfl) h3
  obtain ⟨x4, rfl, rfl, rfl, w4⟩ := open_int Try.underlying3 (hval 4 3 v4 rfl rfl) h4
  obtain ⟨x5, rfl, rfl, rfl, w5⟩ := open_int Try.underlying3 (hval 5 3 v5 rfl rfl) h5
  obtain ⟨x6, rfl, rfl, rfl, w6⟩ := open_int Try.underlying3 (hval 6 3 v6 rfl rfl) h6
  clear hA0 hval0
  refine (walk W cs0 rg0 x1 w1 x2 w2 x3 w3 x4 w4 x5 w5 x6 w6).mono fun e W' ⟨he, bel⟩ => ?_
  subst he
  exact ⟨_, rfl, _, _, _, [], _, [], hW', trodAll_mk1 (shut_bool Try.underlying4 _), (trodAll_cons_mk (Below.trod laidOut (by kernel_rfl) (of_decide_eq_true (by kernel_rfl)) k0 bel lt0) (trodAll_cons_mk (shut_int Try.underlying3 w1) (trodAll_cons_mk (shut_int Try.underlying3 w2) (trodAll_cons_mk (shut_int Try.underlying3 w3) (trodAll_cons_mk (shut_int Try.underlying3 w4) (trodAll_cons_mk (shut_int Try.underlying3 w5) (trodAll_cons_mk (shut_int Try.underlying3 w6) trodAll_mk0))))))), rfl, bel.frame _, fun h => by cases h⟩

theorem over : Rows.leaseOneRow.holds Try.pinned (OpenSpec.ofChange Rows.leaseOneSpec) :=
  OpenClaim.holds_of_wide 4 Try.f4 rfl rfl rfl rfl rfl rfl rfl ⟨rfl, rfl, rfl, rfl, rfl⟩ rfl rfl rfl rfl rfl (by kernel_rfl) Try.func4 (by kernel_rfl)
    (of_decide_eq_true (by kernel_rfl)) (by unfold Func.isWrapper; first | (rw [if_pos (by decide +kernel)]; kernel_rfl) | (rw [if_neg (by decide +kernel)]; exact ⟨rfl, rfl⟩))
    (fun os started H enc _ => lifted os started H enc)

/-- ████ THE STATEMENT ████ -/
theorem proved : Rows.LeaseOneSaid := over
#print axioms proved
end Go.Proofs.Ytehmikiejfbmeaa.leaseOne
