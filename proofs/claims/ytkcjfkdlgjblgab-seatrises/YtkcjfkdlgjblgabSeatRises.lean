/- What a seat promised never falls. -/
import Derived.Test.YtkcjfkdlgjblgabRows
import Derived.Test.YtkcjfkdlgjblgabXr
import Derived.Test.YtkcjfkdlgjblgabZy
import Derived.WalkKit
import Derived.ProofKit
import Derived.OpenShut
import Derived.ShutString
import Derived.ChangeOld
import Derived.Below
import Derived.SizedLaws
namespace Go.Proofs.Ytkcjfkdlgjblgab.seatRises
open Go.ChangeShapes Go.WideShapes Go.ChangeAt Go.RowKit
open Go.ChangeMaps (open_string shut_string)

theorem own : ownKnob Try.prog.godebug = none := by kernel_rfl
theorem laidOut : laidOutB Try.prog = true := by kernel_rfl

theorem run_rises (a b t w : Int) (s : ByteArray) (k bd n x y : Int) (z : ByteArray) : evV K23 noL Try.f5 [.agg ⟨[.int .i64 a, .int .i64 b, .int .i64 t, .int .i64 w, .string s]⟩, .agg ⟨[.int .i64 k, .int .i64 bd, .int .i64 n, .int .i64 x, .int .i64 y, .string z]⟩] [] = tst (x6_serve a b t w s k bd n x y z != (0 : Int)) (tst (bif true then decide (x0_serve a b t w s k bd n x y z = (0 : Int) ∧ x1_serve a b t w s k bd n x y z = (0 : Int) ∧ x2_serve a b t w s k bd n x y z = (0 : Int) ∧ x3_serve a b t w s k bd n x y z = (0 : Int) ∧ x4_serve a b t w s k bd n x y z = { data := #[] }) else !decide (x0_serve a b t w s k bd n x y z = (0 : Int) ∧ x1_serve a b t w s k bd n x y z = (0 : Int) ∧ x2_serve a b t w s k bd n x y z = (0 : Int) ∧ x3_serve a b t w s k bd n x y z = (0 : Int) ∧ x4_serve a b t w s k bd n x y z = { data := #[] })) (Out.done AE.ret { slots := [some (Value.bool ((↑(n5_serve a b t w s k bd n x y z) : Int) == (0 : Int)))], heap := [] }) (Out.done AE.ret { slots := [some (Value.bool false)], heap := [] })) (tst (slt (x0_serve a b t w s k bd n x y z, x1_serve a b t w s k bd n x y z) (a, b)) (Out.done AE.ret { slots := [some (Value.bool false)], heap := [] }) (tst (slt (x2_serve a b t w s k bd n x y z, x3_serve a b t w s k bd n x y z) (t, w)) (Out.done AE.ret { slots := [some (Value.bool false)], heap := [] }) (tst (x_cseat (x0_serve a b t w s k bd n x y z) (x1_serve a b t w s k bd n x y z) (x2_serve a b t w s k bd n x y z) (x3_serve a b t w s k bd n x y z) (x4_serve a b t w s k bd n x y z) != (0 : Int)) (Out.done AE.ret { slots := [some (Value.bool false)], heap := [] }) (tst (bif true then decide (x2_serve a b t w s k bd n x y z = t ∧ x3_serve a b t w s k bd n x y z = w ∧ x4_serve a b t w s k bd n x y z = s) else !decide (x2_serve a b t w s k bd n x y z = t ∧ x3_serve a b t w s k bd n x y z = w ∧ x4_serve a b t w s k bd n x y z = s)) (Out.done AE.ret { slots := [some (Value.bool true)], heap := [] }) (tst (bif true then decide (x2_serve a b t w s k bd n x y z = x ∧ x3_serve a b t w s k bd n x y z = y ∧ x4_serve a b t w s k bd n x y z = z) else !decide (x2_serve a b t w s k bd n x y z = x ∧ x3_serve a b t w s k bd n x y z = y ∧ x4_serve a b t w s k bd n x y z = z)) (tst (k == (3 : Int)) (Out.done AE.ret { slots := [some (Value.bool !slt (x, y) (a, b))], heap := [] }) (Out.done AE.ret { slots := [some (Value.bool false)], heap := [] })) (Out.done AE.ret { slots := [some (Value.bool false)], heap := [] })))))) := by kernel_rfl
abbrev seK : List LK := [.kInt .i64, .kInt .i64, .kInt .i64, .kInt .i64, .kStr]
theorem law_sat (cs0 cs1 : List Value) : Bnd [.val (.agg ⟨norm seK cs0⟩), .val (.agg ⟨norm vtK cs1⟩)] → (evV K23 noL Try.f5 (canonA 0 [.val (.agg ⟨norm seK cs0⟩), .val (.agg ⟨norm vtK cs1⟩)]) (canonH [.val (.agg ⟨norm seK cs0⟩), .val (.agg ⟨norm vtK cs1⟩)])).sat fun _ S => S.slots = [some (.bool true)] := fun _ => by
  show (evV K23 noL Try.f5 [.agg ⟨[.int .i64 (intV (hdV cs0)), .int .i64 (intV (hdV (tlV cs0))), .int .i64 (intV (hdV (tlV (tlV cs0)))), .int .i64 (intV (hdV (tlV (tlV (tlV cs0))))), .string (strV (hdV (tlV (tlV (tlV (tlV cs0))))))]⟩, .agg ⟨[.int .i64 (intV (hdV cs1)), .int .i64 (intV (hdV (tlV cs1))), .int .i64 (intV (hdV (tlV (tlV cs1)))), .int .i64 (intV (hdV (tlV (tlV (tlV cs1))))), .int .i64 (intV (hdV (tlV (tlV (tlV (tlV cs1)))))), .string (strV (hdV (tlV (tlV (tlV (tlV (tlV cs1)))))))]⟩] []).sat _
  generalize intV (hdV cs0) = a
  generalize intV (hdV (tlV cs0)) = b
  generalize intV (hdV (tlV (tlV cs0))) = t
  generalize intV (hdV (tlV (tlV (tlV cs0)))) = w
  generalize strV (hdV (tlV (tlV (tlV (tlV cs0))))) = s
  generalize intV (hdV cs1) = k
  generalize intV (hdV (tlV cs1)) = bd
  generalize intV (hdV (tlV (tlV cs1))) = n
  generalize intV (hdV (tlV (tlV (tlV cs1)))) = x
  generalize intV (hdV (tlV (tlV (tlV (tlV cs1))))) = y
  generalize strV (hdV (tlV (tlV (tlV (tlV (tlV cs1)))))) = z
  rw [run_rises a b t w s k bd n x y z]
  by_cases hh : x_cseat a b t w s = 0 ∧ x_cvote k bd n x y z = 0
  · obtain ⟨h0, h1⟩ := hh
    obtain ⟨e6, hc⟩ := serve_three (bd := bd) (n := n) h0 h1
    obtain ⟨q1, q2, q3⟩ := cseat_yes h0
    have q4 := cvote_yes h1
    have q5 : sck (x, y) = 0 := cck_sck q4
    rw [e6]
    rcases hc with ⟨e0, e1, e2, e3, e4, _⟩ | ⟨_, hs, e0, e1, e2, e3, e4, _⟩ | ⟨hk, hs, e0, e1, e2, e3, e4, _, _⟩
    · rw [e0, e1, e2, e3, e4]
      exact sat_f rfl (sat_f (slt_irr _) (sat_f (slt_irr _) (sat_f (by rw [h0]; rfl) (sat_t (by simp) rfl))))
    · rw [e0, e1, e2, e3, e4]
      exact sat_f rfl (sat_f (slt_opp hs) (sat_f (slt_irr _) (sat_f (by rw [cseat_mk q5 q2 (slt_up hs q3)]; rfl) (sat_t (by simp) rfl))))
    · rw [e0, e1, e2, e3, e4]
      refine sat_f rfl (sat_f hs (sat_f (slt_up' hs q3) (sat_f (by rw [cseat_mk q5 q4 (slt_irr _)]; rfl) ?_)))
      refine sat_tst (fun _ => rfl) (fun _ => sat_t (by simp) (sat_t (by rw [hk]; rfl) ?_))
      show [some (Value.bool (!slt (x, y) (a, b)))] = [some (Value.bool true)]
      rw [hs]
      rfl
  · obtain ⟨e6, e0, e1, e2, e3, e4, e5⟩ := serve_bad hh
    rw [e0, e1, e2, e3, e4, e5]
    exact sat_t (by simp [e6]) (sat_t (by simp) rfl)

theorem K23_P : K23.P = Try.prog := rfl
theorem walk (W : World) (cs0 : List Value) (cs1 : List Value) : Calls Try.prog 5 #[.agg ⟨norm seK cs0⟩, .agg ⟨norm vtK cs1⟩] W fun e w' => e = .returned (.bool true) ∧ Below W.heap.size W w' := by
  rewrite [← K23_P]
  refine law_ok (W := W) K23_ok (L := noL) (f := 5) (fn := Try.f5) Try.func5 (no_loops rfl) (ks := [.one .val, .one .val]) (cas := [.val (.agg ⟨norm seK cs0⟩), .val (.agg ⟨norm vtK cs1⟩)]) (us := [.agg ⟨norm seK cs0⟩, .agg ⟨norm vtK cs1⟩]) (ful := [.agg ⟨norm seK cs0⟩, .agg ⟨norm vtK cs1⟩]) (r := .bool true) rfl rfl rfl ?_ (@law_sat cs0 cs1)
  intro i c u hc hu
  match i, hc, hu with
  | 0, hc, hu => cases hc; cases hu; exact ⟨rfl, rfl⟩
  | 1, hc, hu => cases hc; cases hu; exact ⟨rfl, rfl⟩
  | i + 2, hc, hu => simp at hc

set_option maxRecDepth 100000 in
theorem lifted (os : Os) (started : os.Started) (H : Type) (enc : TypeId × Value → H) :
    ReturnsInHanded {} Try.checked os 5 .any (Rows.seatRisesSpec.pre6 enc Try.prog Try.f5 Rows.seatRisesRow.domain false) (Rows.seatRisesSpec.post enc Try.prog Try.f5 false true false false) := by
  refine returnsInHanded_of_change_sized (C := Try.checked) own started (by kernel_rfl) Try.func5
    (ChangeSpec.witness6 (enc := enc) (C := Try.checked) false ⟨#[], #[.agg ⟨norm seK []⟩, .agg ⟨norm vtK []⟩], []⟩ 8 (by kernel_rfl) (by kernel_rfl) (by kernel_rfl) (by kernel_rfl)) ?_
  intro W base args ds gs before hval0 hW hcnd hsz0 _
  have hsz : (DataW.weightsEach Try.prog (Try.f5.params.toList ++ Rows.seatRisesSpec.plain.varTypes Try.prog) (ds ++ gs)).all (· ≤ reachBytes) = true := hsz0
  clear hsz0
  have hval : ∀ (j : Nat) t v, Try.f5.params[j]? = some t → args[j]? = some v → Value.okWide Try.prog W .any base t v := hval0
  have hW' := hW
  obtain ⟨p, q, hA0, hV, rfl, hfz, hnd⟩ := hW
  have hA : DataW.TrodAll enc Try.prog W 0 (fun _ => true) true Try.f5.params.toList args.toList ds p := hA0
  rw [Try.params5] at hA hval hsz
  obtain ⟨v0, vs0, d0, ds0, p0, q0, hargs, rfl, rfl, h0, r0⟩ := trodAll_cons hA
  obtain ⟨v1, vs1, d1, ds1, p1, q1, rfl, rfl, rfl, h1, r1⟩ := trodAll_cons r0
  obtain ⟨rfl, rfl, rfl⟩ := trodAll_nil r1
  obtain rfl : args = #[v0, v1] := by cases args; simp_all
  obtain ⟨rfl, rfl⟩ := trodVars_none hV
  have k0 := h0
  have lt0 : ∀ x ∈ p0, x.block < W.heap.size := by obtain ⟨m, hm⟩ := k0; exact DataW.trod_lt m _ _ _ hm
  obtain ⟨cs0, rfl⟩ := open_flat (P := Try.prog) (sh := seK) (n := 9) Try.underlying27 (by kernel_rfl) (hval 0 27 v0 rfl rfl) h0
  have k1 := h1
  have lt1 : ∀ x ∈ p1, x.block < W.heap.size := by obtain ⟨m, hm⟩ := k1; exact DataW.trod_lt m _ _ _ hm
  obtain ⟨cs1, rfl⟩ := open_flat (P := Try.prog) (sh := vtK) (n := 9) Try.underlying29 (by kernel_rfl) (hval 1 29 v1 rfl rfl) h1
  clear hA0 hval0
  refine (walk W cs0 cs1).mono fun e W' ⟨he, bel⟩ => ?_
  subst he
  exact ⟨_, rfl, _, _, _, [], _, [], hW', trodAll_mk1 (shut_bool Try.underlying4 _), (trodAll_cons_mk (Below.trod laidOut (by kernel_rfl) (of_decide_eq_true (by kernel_rfl)) k0 bel lt0) (trodAll_cons_mk (Below.trod laidOut (by kernel_rfl) (of_decide_eq_true (by kernel_rfl)) k1 bel lt1) trodAll_mk0)), rfl, bel.frame _, fun h => by cases h⟩

theorem over : Rows.seatRisesRow.holds Try.pinned (OpenSpec.ofChange Rows.seatRisesSpec) :=
  OpenClaim.holds_of_wide 5 Try.f5 rfl rfl rfl rfl rfl rfl rfl ⟨rfl, rfl, rfl, rfl, rfl⟩ rfl rfl rfl rfl rfl (by kernel_rfl) Try.func5 (by kernel_rfl)
    (of_decide_eq_true (by kernel_rfl)) (by unfold Func.isWrapper; first | (rw [if_pos (by decide +kernel)]; kernel_rfl) | (rw [if_neg (by decide +kernel)]; exact ⟨rfl, rfl⟩))
    (fun os started H enc _ => lifted os started H enc)

/-- ████ THE STATEMENT ████ -/
theorem proved : Rows.SeatRisesSaid := over
#print axioms proved
end Go.Proofs.Ytkcjfkdlgjblgab.seatRises
