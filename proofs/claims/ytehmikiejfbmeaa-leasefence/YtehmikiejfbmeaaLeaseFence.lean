/- A holder of old does not get through a fence any more, once its follower did. -/
import Derived.Test.YtehmikiejfbmeaaRows
import Derived.Test.YtehmikiejfbmeaaLz8
import Derived.Test.YtehmikiejfbmeaaZw
import Derived.WalkKit
import Derived.ProofKit
import Derived.OpenShut
import Derived.ShutString
import Derived.ChangeOld
import Derived.Below
import Derived.SizedLaws
namespace Go.Proofs.Ytehmikiejfbmeaa.leaseFence
open Go.ChangeShapes Go.WideShapes Go.ChangeAt Go.RowKit
open Go.ChangeMaps (open_string shut_string)

theorem own : ownKnob Try.prog.godebug = none := by kernel_rfl
theorem laidOut : laidOutB Try.prog = true := by kernel_rfl

theorem run_fence (h t k who now term other later span : Int) : evV K8 noL Try.f8 [.agg ⟨[.int .i64 h, .int .i64 t, .int .i64 k]⟩, .int .i64 who, .int .i64 now, .int .i64 term, .int .i64 other, .int .i64 later, .int .i64 span] [] = tst (x3_take h t k who now term != (0 : Int)) (Out.done AE.ret { slots := [some (Value.bool true)], heap := [] }) (tst (x3_take (x0_take h t k who now term) (x1_take h t k who now term) (x2_take h t k who now term) other later span != (0 : Int)) (Out.done AE.ret { slots := [some (Value.bool true)], heap := [] }) (tst (other == who) (Out.done AE.ret { slots := [some (Value.bool true)], heap := [] }) (tst (x1_fp (0 : Int) (x2_take h t k who now term) == (0 : Int)) (tst (x1_fp (x0_fp (0 : Int) (x2_take h t k who now term)) (x2_take (x0_take h t k who now term) (x1_take h t k who now term) (x2_take h t k who now term) other later span) == (0 : Int)) (Out.done AE.ret { slots := [some (Value.bool (x1_fp (x0_fp (x0_fp (0 : Int) (x2_take h t k who now term)) (x2_take (x0_take h t k who now term) (x1_take h t k who now term) (x2_take h t k who now term) other later span)) (x2_take h t k who now term) == (4 : Int)))], heap := [] }) (Out.done AE.ret { slots := [some (Value.bool false)], heap := [] })) (Out.done AE.ret { slots := [some (Value.bool false)], heap := [] })))) := by kernel_rfl
theorem law_sat (cs0 : List Value) (x1 : Int) (x2 : Int) (x3 : Int) (x4 : Int) (x5 : Int) (x6 : Int) (_r0 : rngs leK cs0) (_r1 : (Lit.int .i64 x1).wf = true) (_r2 : (Lit.int .i64 x2).wf = true) (_r3 : (Lit.int .i64 x3).wf = true) (_r4 : (Lit.int .i64 x4).wf = true) (_r5 : (Lit.int .i64 x5).wf = true) (_r6 : (Lit.int .i64 x6).wf = true) : Bnd [.val (.agg ⟨norm leK cs0⟩), .val (.int .i64 x1), .val (.int .i64 x2), .val (.int .i64 x3), .val (.int .i64 x4), .val (.int .i64 x5), .val (.int .i64 x6)] → (evV K8 noL Try.f8 (regr [.one .val, .one .val, .one .val, .one .val, .one .val, .one .val, .one .val] (canonA 0 [.val (.agg ⟨norm leK cs0⟩), .val (.int .i64 x1), .val (.int .i64 x2), .val (.int .i64 x3), .val (.int .i64 x4), .val (.int .i64 x5), .val (.int .i64 x6)])) (canonH [.val (.agg ⟨norm leK cs0⟩), .val (.int .i64 x1), .val (.int .i64 x2), .val (.int .i64 x3), .val (.int .i64 x4), .val (.int .i64 x5), .val (.int .i64 x6)])).sat fun _ S => S.slots = [some (.bool true)] := fun _ => by
  show (evV K8 noL Try.f8 [.agg ⟨[.int .i64 (intV (hdV cs0)), .int .i64 (intV (hdV (tlV cs0))), .int .i64 (intV (hdV (tlV (tlV cs0))))]⟩, .int .i64 x1, .int .i64 x2, .int .i64 x3, .int .i64 x4, .int .i64 x5, .int .i64 x6] []).sat _
  generalize intV (hdV cs0) = h
  generalize intV (hdV (tlV cs0)) = t
  generalize intV (hdV (tlV (tlV cs0))) = k
  generalize x1 = who
  generalize x2 = now
  generalize x3 = term
  generalize x4 = other
  generalize x5 = later
  generalize x6 = span
  rw [run_fence h t k who now term other later span]
  obtain ⟨-, f1⟩ := take_f (take_spec h t k who now term)
  obtain ⟨-, f2⟩ := take_f (take_spec (x0_take h t k who now term) (x1_take h t k who now term) (x2_take h t k who now term) other later span)
  by_cases e0 : x3_take h t k who now term = 0
  rotate_left
  · exact sat_tst (fun _ => rfl) (fun h0 => absurd (bne_f h0) e0)
  by_cases e1 : x3_take (x0_take h t k who now term) (x1_take h t k who now term) (x2_take h t k who now term) other later span = 0
  rotate_left
  · exact sat_tst (fun _ => rfl) (fun _ => sat_tst (fun _ => rfl) (fun h0 => absurd (bne_f h0) e1))
  obtain ⟨g0, g1, g2, g3, -, -, -, -, -⟩ := f1 e0
  obtain ⟨k0, k1, k2, k3, -, -, -, -, k8⟩ := f2 e1
  clear f1 f2
  generalize x2_take (x0_take h t k who now term) (x1_take h t k who now term) (x2_take h t k who now term) other later span = cb at *
  generalize x2_take h t k who now term = ca at *
  by_cases ew : other = who
  · exact sat_tst (fun _ => rfl) (fun _ => sat_tst (fun _ => rfl) (fun _ => sat_tst (fun _ => rfl) (fun h2 => absurd ew (beq_f h2))))
  have ta : Tm ca := ⟨g1.2.2.2.2.1, g1.2.2.2.2.2⟩
  have tb : Tm cb := ⟨k1.2.2.2.2.1, k1.2.2.2.2.2⟩
  have hab : ca < cb := by unfold Asked at g3 k3; omega
  obtain ⟨p1, p2⟩ := (pass_f (fp_spec 0 ca) ⟨by decide, by decide⟩ ta).1 ta.1
  rw [p1]
  obtain ⟨p3, p4⟩ := (pass_f (fp_spec ca cb) ta tb).1 (by omega)
  rw [p3]
  have p5 := (pass_f (fp_spec cb ca) tb ta).2 hab
  exact sat_tst (fun _ => rfl) (fun h0 => have c0 := bne_f h0; sat_tst (fun _ => rfl) (fun h1 => have c1 := bne_f h1; sat_tst (fun _ => rfl) (fun h2 => have c2 := beq_f h2; sat_tst (fun h3 => have c3 := beq_t h3; sat_tst (fun h4 => have c4 := beq_t h4; leaf_v (bt (t_beq (by omega)))) (fun h4 => have c4 := beq_f h4; (by exfalso; omega))) (fun h3 => have c3 := beq_f h3; (by exfalso; omega)))))

theorem K8_P : K8.P = Try.prog := rfl
theorem walk (W : World) (cs0 : List Value) (rg0 : rngs leK cs0) (x1 : Int) (rg1 : (Lit.int .i64 x1).wf = true) (x2 : Int) (rg2 : (Lit.int .i64 x2).wf = true) (x3 : Int) (rg3 : (Lit.int .i64 x3).wf = true) (x4 : Int) (rg4 : (Lit.int .i64 x4).wf = true) (x5 : Int) (rg5 : (Lit.int .i64 x5).wf = true) (x6 : Int) (rg6 : (Lit.int .i64 x6).wf = true) : Calls Try.prog 8 #[.agg ⟨norm leK cs0⟩, .int .i64 x1, .int .i64 x2, .int .i64 x3, .int .i64 x4, .int .i64 x5, .int .i64 x6] W fun e w' => e = .returned (.bool true) ∧ Below W.heap.size W w' := by
  rewrite [← K8_P]
  refine law_ok (W := W) K8_ok (L := noL) (f := 8) (fn := Try.f8) Try.func8 (no_loops rfl) (ks := [.one .val, .one .val, .one .val, .one .val, .one .val, .one .val, .one .val]) (cas := [.val (.agg ⟨norm leK cs0⟩), .val (.int .i64 x1), .val (.int .i64 x2), .val (.int .i64 x3), .val (.int .i64 x4), .val (.int .i64 x5), .val (.int .i64 x6)]) (us := [.agg ⟨norm leK cs0⟩, .int .i64 x1, .int .i64 x2, .int .i64 x3, .int .i64 x4, .int .i64 x5, .int .i64 x6]) (ful := [.agg ⟨norm leK cs0⟩, .int .i64 x1, .int .i64 x2, .int .i64 x3, .int .i64 x4, .int .i64 x5, .int .i64 x6]) (r := .bool true) rfl rfl rfl ?_ (@law_sat cs0 x1 x2 x3 x4 x5 x6 rg0 rg1 rg2 rg3 rg4 rg5 rg6)
  intro i c u hc hu
  match i, hc, hu with
  | 0, hc, hu => cases hc; cases hu; exact ⟨rfl, rfl⟩
  | 1, hc, hu => cases hc; cases hu; exact ⟨rfl, rfl⟩
  | 2, hc, hu => cases hc; cases hu; exact ⟨rfl, rfl⟩
  | 3, hc, hu => cases hc; cases hu; exact ⟨rfl, rfl⟩
  | 4, hc, hu => cases hc; cases hu; exact ⟨rfl, rfl⟩
  | 5, hc, hu => cases hc; cases hu; exact ⟨rfl, rfl⟩
  | 6, hc, hu => cases hc; cases hu; exact ⟨rfl, rfl⟩
  | i + 7, hc, hu => simp at hc

set_option maxRecDepth 100000 in
theorem lifted (os : Os) (started : os.Started) (H : Type) (enc : TypeId × Value → H) :
    ReturnsInHanded {} Try.checked os 8 .any (Rows.leaseFenceSpec.pre6 enc Try.prog Try.f8 Rows.leaseFenceRow.domain false) (Rows.leaseFenceSpec.post enc Try.prog Try.f8 false true false false) := by
  refine returnsInHanded_of_change_sized (C := Try.checked) own started (by kernel_rfl) Try.func8
    (ChangeSpec.witness6 (enc := enc) (C := Try.checked) false ⟨#[], #[.agg ⟨norm leK []⟩, .int .i64 0, .int .i64 0, .int .i64 0, .int .i64 0, .int .i64 0, .int .i64 0], []⟩ 8 (by kernel_rfl) (by kernel_rfl) (by kernel_rfl) (by kernel_rfl)) ?_
  intro W base args ds gs before hval0 hW hcnd hsz0 _
  have hsz : (DataW.weightsEach Try.prog (Try.f8.params.toList ++ Rows.leaseFenceSpec.plain.varTypes Try.prog) (ds ++ gs)).all (· ≤ reachBytes) = true := hsz0
  clear hsz0
  have hval : ∀ (j : Nat) t v, Try.f8.params[j]? = some t → args[j]? = some v → Value.okWide Try.prog W .any base t v := hval0
  have hW' := hW
  obtain ⟨p, q, hA0, hV, rfl, hfz, hnd⟩ := hW
  have hA : DataW.TrodAll enc Try.prog W 0 (fun _ => true) true Try.f8.params.toList args.toList ds p := hA0
  rw [Try.params8] at hA hval hsz
  obtain ⟨v0, vs0, d0, ds0, p0, q0, hargs, rfl, rfl, h0, r0⟩ := trodAll_cons hA
  obtain ⟨v1, vs1, d1, ds1, p1, q1, rfl, rfl, rfl, h1, r1⟩ := trodAll_cons r0
  obtain ⟨v2, vs2, d2, ds2, p2, q2, rfl, rfl, rfl, h2, r2⟩ := trodAll_cons r1
  obtain ⟨v3, vs3, d3, ds3, p3, q3, rfl, rfl, rfl, h3, r3⟩ := trodAll_cons r2
  obtain ⟨v4, vs4, d4, ds4, p4, q4, rfl, rfl, rfl, h4, r4⟩ := trodAll_cons r3
  obtain ⟨v5, vs5, d5, ds5, p5, q5, rfl, rfl, rfl, h5, r5⟩ := trodAll_cons r4
  obtain ⟨v6, vs6, d6, ds6, p6, q6, rfl, rfl, rfl, h6, r6⟩ := trodAll_cons r5
  obtain ⟨rfl, rfl, rfl⟩ := trodAll_nil r6
  obtain rfl : args = #[v0, v1, v2, v3, v4, v5, v6] := by cases args; simp_all
  obtain ⟨rfl, rfl⟩ := trodVars_none hV
  have k0 := h0
  have lt0 : ∀ x ∈ p0, x.block < W.heap.size := by obtain ⟨m, hm⟩ := k0; exact DataW.trod_lt m _ _ _ hm
  obtain ⟨cs0, rfl, rg0⟩ := open_flatR (P := Try.prog) (sh := leK) (n := 9) Try.underlying23 (by kernel_rfl) (hval 0 23 v0 rfl rfl) h0
  obtain ⟨x1, rfl, rfl, rfl, w1⟩ := open_int Try.underlying3 (hval 1 3 v1 rfl rfl) h1
  obtain ⟨x2, rfl, rfl, rfl, w2⟩ := open_int Try.underlying3 (hval 2 3 v2 rfl rfl) h2
  obtain ⟨x3, rfl, rfl, rfl, w3⟩ := open_int Try.underlying3 (hval 3 3 v3 rfl rfl) h3
  obtain ⟨x4, rfl, rfl, rfl, w4⟩ := open_int Try.underlying3 (hval 4 3 v4 rfl rfl) h4
  obtain ⟨x5, rfl, rfl, rfl, w5⟩ := open_int Try.underlying3 (hval 5 3 v5 rfl rfl) h5
  obtain ⟨x6, rfl, rfl, rfl, w6⟩ := open_int Try.underlying3 (hval 6 3 v6 rfl rfl) h6
  clear hA0 hval0
  refine (walk W cs0 rg0 x1 w1 x2 w2 x3 w3 x4 w4 x5 w5 x6 w6).mono fun e W' ⟨he, bel⟩ => ?_
  subst he
  exact ⟨_, rfl, _, _, _, [], _, [], hW', trodAll_mk1 (shut_bool Try.underlying4 _), (trodAll_cons_mk (Below.trod laidOut (by kernel_rfl) (of_decide_eq_true (by kernel_rfl)) k0 bel lt0) (trodAll_cons_mk (shut_int Try.underlying3 w1) (trodAll_cons_mk (shut_int Try.underlying3 w2) (trodAll_cons_mk (shut_int Try.underlying3 w3) (trodAll_cons_mk (shut_int Try.underlying3 w4) (trodAll_cons_mk (shut_int Try.underlying3 w5) (trodAll_cons_mk (shut_int Try.underlying3 w6) trodAll_mk0))))))), rfl, bel.frame _, fun h => by cases h⟩

theorem over : Rows.leaseFenceRow.holds Try.pinned (OpenSpec.ofChange Rows.leaseFenceSpec) :=
  OpenClaim.holds_of_wide 8 Try.f8 rfl rfl rfl rfl rfl rfl rfl ⟨rfl, rfl, rfl, rfl, rfl⟩ rfl rfl rfl rfl rfl (by kernel_rfl) Try.func8 (by kernel_rfl)
    (of_decide_eq_true (by kernel_rfl)) (by unfold Func.isWrapper; first | (rw [if_pos (by decide +kernel)]; kernel_rfl) | (rw [if_neg (by decide +kernel)]; exact ⟨rfl, rfl⟩))
    (fun os started H enc _ => lifted os started H enc)

/-- ████ THE STATEMENT ████ -/
theorem proved : Rows.LeaseFenceSaid := over
#print axioms proved
end Go.Proofs.Ytehmikiejfbmeaa.leaseFence
