/- Held, Take, Give, Pass and Check of leases and fences answer just what the document says, errors too, whatever they are handed. -/
import Derived.Test.YtehmikiejfbmeaaRows
import Derived.Test.YtehmikiejfbmeaaLz8
import Derived.Test.YtehmikiejfbmeaaZw
import Derived.WalkKit
import Derived.ProofKit
import Derived.OpenShut
import Derived.ShutString
import Derived.ChangeOld
import Derived.Below
import Derived.SizedLaws
namespace Go.Proofs.Ytehmikiejfbmeaa.leaseTells
open Go.ChangeShapes Go.WideShapes Go.ChangeAt Go.RowKit
open Go.ChangeMaps (open_string shut_string)

theorem own : ownKnob Try.prog.godebug = none := by kernel_rfl
theorem laidOut : laidOutB Try.prog = true := by kernel_rfl

theorem run_tells (h t k who tok now term s : Int) : evV K8 noL Try.f3 [.agg ⟨[.int .i64 h, .int .i64 t, .int .i64 k]⟩, .int .i64 who, .int .i64 tok, .int .i64 now, .int .i64 term, .agg ⟨[.int .i64 s]⟩] [] = tst (x_lc h t k == x_rlc h t k) (tst (x0_held h t k now == x0_rheld h t k now) (tst (x1_held h t k now == x1_rheld h t k now) (tst (bif true then decide (x0_take h t k who now term = x0_rtake h t k who now term ∧ x1_take h t k who now term = x1_rtake h t k who now term ∧ x2_take h t k who now term = x2_rtake h t k who now term) else !decide (x0_take h t k who now term = x0_rtake h t k who now term ∧ x1_take h t k who now term = x1_rtake h t k who now term ∧ x2_take h t k who now term = x2_rtake h t k who now term)) (tst (x3_take h t k who now term == x3_rtake h t k who now term) (tst (bif true then decide (x0_give h t k who tok now = x0_rgive h t k who tok now ∧ x1_give h t k who tok now = x1_rgive h t k who tok now ∧ x2_give h t k who tok now = x2_rgive h t k who tok now) else !decide (x0_give h t k who tok now = x0_rgive h t k who tok now ∧ x1_give h t k who tok now = x1_rgive h t k who tok now ∧ x2_give h t k who tok now = x2_rgive h t k who tok now)) (tst (x3_give h t k who tok now == x3_rgive h t k who tok now) (tst (bif true then decide (x0_fp s tok = x0_rfp s tok) else !decide (x0_fp s tok = x0_rfp s tok)) (Out.done AE.ret { slots := [some (Value.bool (x1_fp s tok == x1_rfp s tok))], heap := [] }) (Out.done AE.ret { slots := [some (Value.bool false)], heap := [] })) (Out.done AE.ret { slots := [some (Value.bool false)], heap := [] })) (Out.done AE.ret { slots := [some (Value.bool false)], heap := [] })) (Out.done AE.ret { slots := [some (Value.bool false)], heap := [] })) (Out.done AE.ret { slots := [some (Value.bool false)], heap := [] })) (Out.done AE.ret { slots := [some (Value.bool false)], heap := [] })) (Out.done AE.ret { slots := [some (Value.bool false)], heap := [] })) (Out.done AE.ret { slots := [some (Value.bool false)], heap := [] }) := by kernel_rfl
theorem law_sat (cs0 : List Value) (x1 : Int) (x2 : Int) (x3 : Int) (x4 : Int) (cs5 : List Value) (_r0 : rngs leK cs0) (_r1 : (Lit.int .i64 x1).wf = true) (_r2 : (Lit.int .i64 x2).wf = true) (_r3 : (Lit.int .i64 x3).wf = true) (_r4 : (Lit.int .i64 x4).wf = true) (_r5 : rngs feK cs5) : Bnd [.val (.agg ⟨norm leK cs0⟩), .val (.int .i64 x1), .val (.int .i64 x2), .val (.int .i64 x3), .val (.int .i64 x4), .val (.agg ⟨norm feK cs5⟩)] → (evV K8 noL Try.f3 (regr [.one .val, .one .val, .one .val, .one .val, .one .val, .one .val] (canonA 0 [.val (.agg ⟨norm leK cs0⟩), .val (.int .i64 x1), .val (.int .i64 x2), .val (.int .i64 x3), .val (.int .i64 x4), .val (.agg ⟨norm feK cs5⟩)])) (canonH [.val (.agg ⟨norm leK cs0⟩), .val (.int .i64 x1), .val (.int .i64 x2), .val (.int .i64 x3), .val (.int .i64 x4), .val (.agg ⟨norm feK cs5⟩)])).sat fun _ S => S.slots = [some (.bool true)] := fun _ => by
  show (evV K8 noL Try.f3 [.agg ⟨[.int .i64 (intV (hdV cs0)), .int .i64 (intV (hdV (tlV cs0))), .int .i64 (intV (hdV (tlV (tlV cs0))))]⟩, .int .i64 x1, .int .i64 x2, .int .i64 x3, .int .i64 x4, .agg ⟨[.int .i64 (intV (hdV cs5))]⟩] []).sat _
  generalize intV (hdV cs0) = h
  generalize intV (hdV (tlV cs0)) = t
  generalize intV (hdV (tlV (tlV cs0))) = k
  generalize x1 = who
  generalize x2 = tok
  generalize x3 = now
  generalize x4 = term
  generalize intV (hdV cs5) = s
  rw [run_tells h t k who tok now term s]
  have f0 := check_one (lc_spec h t k) (rlc_spec h t k)
  obtain ⟨f1, f2⟩ := held_one (held_spec h t k now) (rheld_spec h t k now)
  obtain ⟨f3, f4⟩ := take_one (take_spec h t k who now term) (rtake_spec h t k who now term)
  obtain ⟨f5, f6⟩ := give_one (give_spec h t k who tok now) (rgive_spec h t k who tok now)
  obtain ⟨f7, f8⟩ := pass_one (fp_spec s tok) (rfp_spec s tok)
  exact sat_tst (fun h0 => have c0 := beq_t h0; sat_tst (fun h1 => have c1 := beq_t h1; sat_tst (fun h2 => have c2 := beq_t h2; sat_tst (fun h3 => have c3 := of_decide_eq_true h3; sat_tst (fun h4 => have c4 := beq_t h4; sat_tst (fun h5 => have c5 := of_decide_eq_true h5; sat_tst (fun h6 => have c6 := beq_t h6; sat_tst (fun h7 => have c7 := of_decide_eq_true h7; leaf_v (bt (t_beq (by omega)))) (fun h7 => have c7 := of_decide_eq_false h7; (by exfalso; omega))) (fun h6 => have c6 := beq_f h6; (by exfalso; omega))) (fun h5 => have c5 := of_decide_eq_false h5; (by exfalso; omega))) (fun h4 => have c4 := beq_f h4; (by exfalso; omega))) (fun h3 => have c3 := of_decide_eq_false h3; (by exfalso; omega))) (fun h2 => have c2 := beq_f h2; (by exfalso; omega))) (fun h1 => have c1 := beq_f h1; (by exfalso; omega))) (fun h0 => have c0 := beq_f h0; (by exfalso; omega))

theorem K8_P : K8.P = Try.prog := rfl
theorem walk (W : World) (cs0 : List Value) (rg0 : rngs leK cs0) (x1 : Int) (rg1 : (Lit.int .i64 x1).wf = true) (x2 : Int) (rg2 : (Lit.int .i64 x2).wf = true) (x3 : Int) (rg3 : (Lit.int .i64 x3).wf = true) (x4 : Int) (rg4 : (Lit.int .i64 x4).wf = true) (cs5 : List Value) (rg5 : rngs feK cs5) : Calls Try.prog 3 #[.agg ⟨norm leK cs0⟩, .int .i64 x1, .int .i64 x2, .int .i64 x3, .int .i64 x4, .agg ⟨norm feK cs5⟩] W fun e w' => e = .returned (.bool true) ∧ Below W.heap.size W w' := by
  rewrite [← K8_P]
  refine law_ok (W := W) K8_ok (L := noL) (f := 3) (fn := Try.f3) Try.func3 (no_loops rfl) (ks := [.one .val, .one .val, .one .val, .one .val, .one .val, .one .val]) (cas := [.val (.agg ⟨norm leK cs0⟩), .val (.int .i64 x1), .val (.int .i64 x2), .val (.int .i64 x3), .val (.int .i64 x4), .val (.agg ⟨norm feK cs5⟩)]) (us := [.agg ⟨norm leK cs0⟩, .int .i64 x1, .int .i64 x2, .int .i64 x3, .int .i64 x4, .agg ⟨norm feK cs5⟩]) (ful := [.agg ⟨norm leK cs0⟩, .int .i64 x1, .int .i64 x2, .int .i64 x3, .int .i64 x4, .agg ⟨norm feK cs5⟩]) (r := .bool true) rfl rfl rfl ?_ (@law_sat cs0 x1 x2 x3 x4 cs5 rg0 rg1 rg2 rg3 rg4 rg5)
  intro i c u hc hu
  match i, hc, hu with
  | 0, hc, hu => cases hc; cases hu; exact ⟨rfl, rfl⟩
  | 1, hc, hu => cases hc; cases hu; exact ⟨rfl, rfl⟩
  | 2, hc, hu => cases hc; cases hu; exact ⟨rfl, rfl⟩
  | 3, hc, hu => cases hc; cases hu; exact ⟨rfl, rfl⟩
  | 4, hc, hu => cases hc; cases hu; exact ⟨rfl, rfl⟩
  | 5, hc, hu => cases hc; cases hu; exact ⟨rfl, rfl⟩
  | i + 6, hc, hu => simp at hc

set_option maxRecDepth 100000 in
theorem lifted (os : Os) (started : os.Started) (H : Type) (enc : TypeId × Value → H) :
    ReturnsInHanded {} Try.checked os 3 .any (Rows.leaseTellsSpec.pre6 enc Try.prog Try.f3 Rows.leaseTellsRow.domain false) (Rows.leaseTellsSpec.post enc Try.prog Try.f3 false true false false) := by
  refine returnsInHanded_of_change_sized (C := Try.checked) own started (by kernel_rfl) Try.func3
    (ChangeSpec.witness6 (enc := enc) (C := Try.checked) false ⟨#[], #[.agg ⟨norm leK []⟩, .int .i64 0, .int .i64 0, .int .i64 0, .int .i64 0, .agg ⟨norm feK []⟩], []⟩ 8 (by kernel_rfl) (by kernel_rfl) (by kernel_rfl) (by kernel_rfl)) ?_
  intro W base args ds gs before hval0 hW hcnd hsz0 _
  have hsz : (DataW.weightsEach Try.prog (Try.f3.params.toList ++ Rows.leaseTellsSpec.plain.varTypes Try.prog) (ds ++ gs)).all (· ≤ reachBytes) = true := hsz0
  clear hsz0
  have hval : ∀ (j : Nat) t v, Try.f3.params[j]? = some t → args[j]? = some v → Value.okWide Try.prog W .any base t v := hval0
  have hW' := hW
  obtain ⟨p, q, hA0, hV, rfl, hfz, hnd⟩ := hW
  have hA : DataW.TrodAll enc Try.prog W 0 (fun _ => true) true Try.f3.params.toList args.toList ds p := hA0
  rw [Try.params3] at hA hval hsz
  obtain ⟨v0, vs0, d0, ds0, p0, q0, hargs, rfl, rfl, h0, r0⟩ := trodAll_cons hA
  obtain ⟨v1, vs1, d1, ds1, p1, q1, rfl, rfl, rfl, h1, r1⟩ := trodAll_cons r0
  obtain ⟨v2, vs2, d2, ds2, p2, q2, rfl, rfl, rfl, h2, r2⟩ := trodAll_cons r1
  obtain ⟨v3, vs3, d3, ds3, p3, q3, rfl, rfl, rfl, h3, r3⟩ := trodAll_cons r2
  obtain ⟨v4, vs4, d4, ds4, p4, q4, rfl, rfl, rfl, h4, r4⟩ := trodAll_cons r3
  obtain ⟨v5, vs5, d5, ds5, p5, q5, rfl, rfl, rfl, h5, r5⟩ := trodAll_cons r4
  obtain ⟨rfl, rfl, rfl⟩ := trodAll_nil r5
  obtain rfl : args = #[v0, v1, v2, v3, v4, v5] := by cases args; simp_all
  obtain ⟨rfl, rfl⟩ := trodVars_none hV
  have k0 := h0
  have lt0 : ∀ x ∈ p0, x.block < W.heap.size := by obtain ⟨m, hm⟩ := k0; exact DataW.trod_lt m _ _ _ hm
  obtain ⟨cs0, rfl, rg0⟩ := open_flatR (P := Try.prog) (sh := leK) (n := 9) Try.underlying23 (by kernel_rfl) (hval 0 23 v0 rfl rfl) h0
  obtain ⟨x1, rfl, rfl, rfl, w1⟩ := open_int Try.underlying3 (hval 1 3 v1 rfl rfl) h1
  obtain ⟨x2, rfl, rfl, rfl, w2⟩ := open_int Try.underlying3 (hval 2 3 v2 rfl rfl) h2
  obtain ⟨x3, rfl, rfl, rfl, w3⟩ := open_int Try.underlying3 (hval 3 3 v3 rfl rfl) h3
  obtain ⟨x4, rfl, rfl, rfl, w4⟩ := open_int Try.underlying3 (hval 4 3 v4 rfl rfl) h4
  have k5 := h5
  have lt5 : ∀ x ∈ p5, x.block < W.heap.size := by obtain ⟨m, hm⟩ := k5; exact DataW.trod_lt m _ _ _ hm
  obtain ⟨cs5, rfl, rg5⟩ := open_flatR (P := Try.prog) (sh := feK) (n := 9) Try.underlying25 (by kernel_rfl) (hval 5 25 v5 rfl rfl) h5
  clear hA0 hval0
  refine (walk W cs0 rg0 x1 w1 x2 w2 x3 w3 x4 w4 cs5 rg5).mono fun e W' ⟨he, bel⟩ => ?_
  subst he
  exact ⟨_, rfl, _, _, _, [], _, [], hW', trodAll_mk1 (shut_bool Try.underlying4 _), (trodAll_cons_mk (Below.trod laidOut (by kernel_rfl) (of_decide_eq_true (by kernel_rfl)) k0 bel lt0) (trodAll_cons_mk (shut_int Try.underlying3 w1) (trodAll_cons_mk (shut_int Try.underlying3 w2) (trodAll_cons_mk (shut_int Try.underlying3 w3) (trodAll_cons_mk (shut_int Try.underlying3 w4) (trodAll_cons_mk (Below.trod laidOut (by kernel_rfl) (of_decide_eq_true (by kernel_rfl)) k5 bel lt5) trodAll_mk0)))))), rfl, bel.frame _, fun h => by cases h⟩

theorem over : Rows.leaseTellsRow.holds Try.pinned (OpenSpec.ofChange Rows.leaseTellsSpec) :=
  OpenClaim.holds_of_wide 3 Try.f3 rfl rfl rfl rfl rfl rfl rfl ⟨rfl, rfl, rfl, rfl, rfl⟩ rfl rfl rfl rfl rfl (by kernel_rfl) Try.func3 (by kernel_rfl)
    (of_decide_eq_true (by kernel_rfl)) (by unfold Func.isWrapper; first | (rw [if_pos (by decide +kernel)]; kernel_rfl) | (rw [if_neg (by decide +kernel)]; exact ⟨rfl, rfl⟩))
    (fun os started H enc _ => lifted os started H enc)

/-- ████ THE STATEMENT ████ -/
theorem proved : Rows.LeaseTellsSaid := over
#print axioms proved
end Go.Proofs.Ytehmikiejfbmeaa.leaseTells
