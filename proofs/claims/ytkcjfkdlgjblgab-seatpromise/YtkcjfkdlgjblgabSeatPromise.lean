/- Who promised does not keep what is below. -/
import Derived.Test.YtkcjfkdlgjblgabRows
import Derived.Test.YtkcjfkdlgjblgabXr
import Derived.Test.YtkcjfkdlgjblgabZy
import Derived.WalkKit
import Derived.ProofKit
import Derived.OpenShut
import Derived.ShutString
import Derived.ChangeOld
import Derived.Below
import Derived.SizedLaws
namespace Go.Proofs.Ytkcjfkdlgjblgab.seatPromise
open Go.ChangeShapes Go.WideShapes Go.ChangeAt Go.RowKit
open Go.ChangeMaps (open_string shut_string)

theorem own : ownKnob Try.prog.godebug = none := by kernel_rfl
theorem laidOut : laidOutB Try.prog = true := by kernel_rfl

theorem run_promise (a b t w : Int) (s : ByteArray) (k bd n x y : Int) (z : ByteArray) (k' bd' n' x' y' : Int) (z' : ByteArray) : evV K23 noL Try.f6 [.agg ⟨[.int .i64 a, .int .i64 b, .int .i64 t, .int .i64 w, .string s]⟩, .agg ⟨[.int .i64 k, .int .i64 bd, .int .i64 n, .int .i64 x, .int .i64 y, .string z]⟩, .agg ⟨[.int .i64 k', .int .i64 bd', .int .i64 n', .int .i64 x', .int .i64 y', .string z']⟩] [] = tst (x6_serve a b t w s k bd n x y z != (0 : Int)) (Out.done AE.ret { slots := [some (Value.bool true)], heap := [] }) (tst ((↑(n5_serve a b t w s k bd n x y z) : Int) == (0 : Int)) (Out.done AE.ret { slots := [some (Value.bool true)], heap := [] }) (Out.ask ((0 : Int) ≤ (0 : Int) ∧ (0 : Int) < (↑(n5_serve a b t w s k bd n x y z) : Int)) (Out.ask ((0 : Nat) < n5_serve a b t w s k bd n x y z) (tst (intV (hdV (g5_serve a b t w s k bd n x y z (0 : Nat))) != (2 : Int)) (Out.done AE.ret { slots := [some (Value.bool true)], heap := [] }) (tst (x6_serve (x0_serve a b t w s k bd n x y z) (x1_serve a b t w s k bd n x y z) (x2_serve a b t w s k bd n x y z) (x3_serve a b t w s k bd n x y z) (x4_serve a b t w s k bd n x y z) k' bd' n' x' y' z' != (0 : Int)) (Out.done AE.ret { slots := [some (Value.bool true)], heap := [] }) (tst (!slt (x', y') (x, y)) (Out.done AE.ret { slots := [some (Value.bool true)], heap := [] }) (tst (bif true then decide (x0_serve (x0_serve a b t w s k bd n x y z) (x1_serve a b t w s k bd n x y z) (x2_serve a b t w s k bd n x y z) (x3_serve a b t w s k bd n x y z) (x4_serve a b t w s k bd n x y z) k' bd' n' x' y' z' = x0_serve a b t w s k bd n x y z ∧ x1_serve (x0_serve a b t w s k bd n x y z) (x1_serve a b t w s k bd n x y z) (x2_serve a b t w s k bd n x y z) (x3_serve a b t w s k bd n x y z) (x4_serve a b t w s k bd n x y z) k' bd' n' x' y' z' = x1_serve a b t w s k bd n x y z ∧ x2_serve (x0_serve a b t w s k bd n x y z) (x1_serve a b t w s k bd n x y z) (x2_serve a b t w s k bd n x y z) (x3_serve a b t w s k bd n x y z) (x4_serve a b t w s k bd n x y z) k' bd' n' x' y' z' = x2_serve a b t w s k bd n x y z ∧ x3_serve (x0_serve a b t w s k bd n x y z) (x1_serve a b t w s k bd n x y z) (x2_serve a b t w s k bd n x y z) (x3_serve a b t w s k bd n x y z) (x4_serve a b t w s k bd n x y z) k' bd' n' x' y' z' = x3_serve a b t w s k bd n x y z ∧ x4_serve (x0_serve a b t w s k bd n x y z) (x1_serve a b t w s k bd n x y z) (x2_serve a b t w s k bd n x y z) (x3_serve a b t w s k bd n x y z) (x4_serve a b t w s k bd n x y z) k' bd' n' x' y' z' = x4_serve a b t w s k bd n x y z) else !decide (x0_serve (x0_serve a b t w s k bd n x y z) (x1_serve a b t w s k bd n x y z) (x2_serve a b t w s k bd n x y z) (x3_serve a b t w s k bd n x y z) (x4_serve a b t w s k bd n x y z) k' bd' n' x' y' z' = x0_serve a b t w s k bd n x y z ∧ x1_serve (x0_serve a b t w s k bd n x y z) (x1_serve a b t w s k bd n x y z) (x2_serve a b t w s k bd n x y z) (x3_serve a b t w s k bd n x y z) (x4_serve a b t w s k bd n x y z) k' bd' n' x' y' z' = x1_serve a b t w s k bd n x y z ∧ x2_serve (x0_serve a b t w s k bd n x y z) (x1_serve a b t w s k bd n x y z) (x2_serve a b t w s k bd n x y z) (x3_serve a b t w s k bd n x y z) (x4_serve a b t w s k bd n x y z) k' bd' n' x' y' z' = x2_serve a b t w s k bd n x y z ∧ x3_serve (x0_serve a b t w s k bd n x y z) (x1_serve a b t w s k bd n x y z) (x2_serve a b t w s k bd n x y z) (x3_serve a b t w s k bd n x y z) (x4_serve a b t w s k bd n x y z) k' bd' n' x' y' z' = x3_serve a b t w s k bd n x y z ∧ x4_serve (x0_serve a b t w s k bd n x y z) (x1_serve a b t w s k bd n x y z) (x2_serve a b t w s k bd n x y z) (x3_serve a b t w s k bd n x y z) (x4_serve a b t w s k bd n x y z) k' bd' n' x' y' z' = x4_serve a b t w s k bd n x y z)) (Out.done AE.ret { slots := [some (Value.bool ((↑(n5_serve (x0_serve a b t w s k bd n x y z) (x1_serve a b t w s k bd n x y z) (x2_serve a b t w s k bd n x y z) (x3_serve a b t w s k bd n x y z) (x4_serve a b t w s k bd n x y z) k' bd' n' x' y' z') : Int) == (0 : Int)))], heap := [] }) (Out.done AE.ret { slots := [some (Value.bool false)], heap := [] })))))))) := by kernel_rfl
abbrev seK : List LK := [.kInt .i64, .kInt .i64, .kInt .i64, .kInt .i64, .kStr]
theorem law_sat (cs0 cs1 cs2 : List Value) : Bnd [.val (.agg ⟨norm seK cs0⟩), .val (.agg ⟨norm vtK cs1⟩), .val (.agg ⟨norm vtK cs2⟩)] → (evV K23 noL Try.f6 (canonA 0 [.val (.agg ⟨norm seK cs0⟩), .val (.agg ⟨norm vtK cs1⟩), .val (.agg ⟨norm vtK cs2⟩)]) (canonH [.val (.agg ⟨norm seK cs0⟩), .val (.agg ⟨norm vtK cs1⟩), .val (.agg ⟨norm vtK cs2⟩)])).sat fun _ S => S.slots = [some (.bool true)] := fun _ => by
  show (evV K23 noL Try.f6 [.agg ⟨[.int .i64 (intV (hdV cs0)), .int .i64 (intV (hdV (tlV cs0))), .int .i64 (intV (hdV (tlV (tlV cs0)))), .int .i64 (intV (hdV (tlV (tlV (tlV cs0))))), .string (strV (hdV (tlV (tlV (tlV (tlV cs0))))))]⟩, .agg ⟨[.int .i64 (intV (hdV cs1)), .int .i64 (intV (hdV (tlV cs1))), .int .i64 (intV (hdV (tlV (tlV cs1)))), .int .i64 (intV (hdV (tlV (tlV (tlV cs1))))), .int .i64 (intV (hdV (tlV (tlV (tlV (tlV cs1)))))), .string (strV (hdV (tlV (tlV (tlV (tlV (tlV cs1)))))))]⟩, .agg ⟨[.int .i64 (intV (hdV cs2)), .int .i64 (intV (hdV (tlV cs2))), .int .i64 (intV (hdV (tlV (tlV cs2)))), .int .i64 (intV (hdV (tlV (tlV (tlV cs2))))), .int .i64 (intV (hdV (tlV (tlV (tlV (tlV cs2)))))), .string (strV (hdV (tlV (tlV (tlV (tlV (tlV cs2)))))))]⟩] []).sat _
  generalize intV (hdV cs0) = a
  generalize intV (hdV (tlV cs0)) = b
  generalize intV (hdV (tlV (tlV cs0))) = t
  generalize intV (hdV (tlV (tlV (tlV cs0)))) = w
  generalize strV (hdV (tlV (tlV (tlV (tlV cs0))))) = s
  generalize intV (hdV cs1) = k
  generalize intV (hdV (tlV cs1)) = bd
  generalize intV (hdV (tlV (tlV cs1))) = n
  generalize intV (hdV (tlV (tlV (tlV cs1)))) = x
  generalize intV (hdV (tlV (tlV (tlV (tlV cs1))))) = y
  generalize strV (hdV (tlV (tlV (tlV (tlV (tlV cs1)))))) = z
  generalize intV (hdV cs2) = k'
  generalize intV (hdV (tlV cs2)) = bd'
  generalize intV (hdV (tlV (tlV cs2))) = n'
  generalize intV (hdV (tlV (tlV (tlV cs2)))) = x'
  generalize intV (hdV (tlV (tlV (tlV (tlV cs2))))) = y'
  generalize strV (hdV (tlV (tlV (tlV (tlV (tlV cs2)))))) = z'
  rw [run_promise a b t w s k bd n x y z k' bd' n' x' y' z']
  by_cases hh : x_cseat a b t w s = 0 ∧ x_cvote k bd n x y z = 0
  · obtain ⟨h0, h1⟩ := hh
    obtain ⟨e6, hc⟩ := serve_three (bd := bd) (n := n) h0 h1
    rw [e6]
    rcases hc with ⟨_, _, _, _, _, e5⟩ | ⟨_, hs, e0, e1, e2, e3, e4, e5⟩ | ⟨hk, hs, _, _, _, _, _, e5, e7⟩
    · rw [e5]
      exact sat_f rfl (sat_t rfl rfl)
    · rw [e0, e1, e2, e3, e4, e5]
      refine sat_f rfl (sat_f rfl (sat_ask (by decide) (sat_ask (by decide) (sat_tst (fun _ => rfl) (fun _ => ?_)))))
      refine sat_tst (fun _ => rfl) (fun g6 => sat_tst (fun _ => rfl) (fun g7 => ?_))
      have hl : slt (x', y') (x, y) = true := by simpa using g7
      by_cases h2 : x_cseat x y t w s = 0 ∧ x_cvote k' bd' n' x' y' z' = 0
      · obtain ⟨h2, h3⟩ := h2
        obtain ⟨_, hc⟩ := serve_three (bd := bd') (n := n') h2 h3
        rcases hc with ⟨d0, d1, d2, d3, d4, d5⟩ | ⟨_, ht, _⟩ | ⟨_, ht, _⟩
        · rw [d0, d1, d2, d3, d4, d5]
          exact sat_t (by simp) rfl
        · rw [slt_opp hl] at ht
          cases ht
        · rw [hl] at ht
          cases ht
      · obtain ⟨d6, _⟩ := serve_bad h2
        exact absurd g6 (by simpa using d6)
    · rw [e5, e7]
      exact sat_f rfl (sat_f rfl (sat_ask (by decide) (sat_ask (by decide) (sat_t rfl rfl))))
  · obtain ⟨e6, _⟩ := serve_bad hh
    exact sat_t (by simp [e6]) rfl

theorem K23_P : K23.P = Try.prog := rfl
theorem walk (W : World) (cs0 : List Value) (cs1 : List Value) (cs2 : List Value) : Calls Try.prog 6 #[.agg ⟨norm seK cs0⟩, .agg ⟨norm vtK cs1⟩, .agg ⟨norm vtK cs2⟩] W fun e w' => e = .returned (.bool true) ∧ Below W.heap.size W w' := by
  rewrite [← K23_P]
  refine law_ok (W := W) K23_ok (L := noL) (f := 6) (fn := Try.f6) Try.func6 (no_loops rfl) (ks := [.one .val, .one .val, .one .val]) (cas := [.val (.agg ⟨norm seK cs0⟩), .val (.agg ⟨norm vtK cs1⟩), .val (.agg ⟨norm vtK cs2⟩)]) (us := [.agg ⟨norm seK cs0⟩, .agg ⟨norm vtK cs1⟩, .agg ⟨norm vtK cs2⟩]) (ful := [.agg ⟨norm seK cs0⟩, .agg ⟨norm vtK cs1⟩, .agg ⟨norm vtK cs2⟩]) (r := .bool true) rfl rfl rfl ?_ (@law_sat cs0 cs1 cs2)
  intro i c u hc hu
  match i, hc, hu with
  | 0, hc, hu => cases hc; cases hu; exact ⟨rfl, rfl⟩
  | 1, hc, hu => cases hc; cases hu; exact ⟨rfl, rfl⟩
  | 2, hc, hu => cases hc; cases hu; exact ⟨rfl, rfl⟩
  | i + 3, hc, hu => simp at hc

set_option maxRecDepth 100000 in
theorem lifted (os : Os) (started : os.Started) (H : Type) (enc : TypeId × Value → H) :
    ReturnsInHanded {} Try.checked os 6 .any (Rows.seatPromiseSpec.pre6 enc Try.prog Try.f6 Rows.seatPromiseRow.domain false) (Rows.seatPromiseSpec.post enc Try.prog Try.f6 false true false false) := by
  refine returnsInHanded_of_change_sized (C := Try.checked) own started (by kernel_rfl) Try.func6
    (ChangeSpec.witness6 (enc := enc) (C := Try.checked) false ⟨#[], #[.agg ⟨norm seK []⟩, .agg ⟨norm vtK []⟩, .agg ⟨norm vtK []⟩], []⟩ 8 (by kernel_rfl) (by kernel_rfl) (by kernel_rfl) (by kernel_rfl)) ?_
  intro W base args ds gs before hval0 hW hcnd hsz0 _
  have hsz : (DataW.weightsEach Try.prog (Try.f6.params.toList ++ Rows.seatPromiseSpec.plain.varTypes Try.prog) (ds ++ gs)).all (· ≤ reachBytes) = true := hsz0
  clear hsz0
  have hval : ∀ (j : Nat) t v, Try.f6.params[j]? = some t → args[j]? = some v → Value.okWide Try.prog W .any base t v := hval0
  have hW' := hW
  obtain ⟨p, q, hA0, hV, rfl, hfz, hnd⟩ := hW
  have hA : DataW.TrodAll enc Try.prog W 0 (fun _ => true) true Try.f6.params.toList args.toList ds p := hA0
  rw [Try.params6] at hA hval hsz
  obtain ⟨v0, vs0, d0, ds0, p0, q0, hargs, rfl, rfl, h0, r0⟩ := trodAll_cons hA
  obtain ⟨v1, vs1, d1, ds1, p1, q1, rfl, rfl, rfl, h1, r1⟩ := trodAll_cons r0
  obtain ⟨v2, vs2, d2, ds2, p2, q2, rfl, rfl, rfl, h2, r2⟩ := trodAll_cons r1
  obtain ⟨rfl, rfl, rfl⟩ := trodAll_nil r2
  obtain rfl : args = #[v0, v1, v2] := by cases args; simp_all
  obtain ⟨rfl, rfl⟩ := trodVars_none hV
  have k0 := h0
  have lt0 : ∀ x ∈ p0, x.block < W.heap.size := by obtain ⟨m, hm⟩ := k0; exact DataW.trod_lt m _ _ _ hm
  obtain ⟨cs0, rfl⟩ := open_flat (P := Try.prog) (sh := seK) (n := 9) Try.underlying27 (by kernel_rfl) (hval 0 27 v0 rfl rfl) h0
  have k1 := h1
  have lt1 : ∀ x ∈ p1, x.block < W.heap.size := by obtain ⟨m, hm⟩ := k1; exact DataW.trod_lt m _ _ _ hm
  obtain ⟨cs1, rfl⟩ := open_flat (P := Try.prog) (sh := vtK) (n := 9) Try.underlying29 (by kernel_rfl) (hval 1 29 v1 rfl rfl) h1
  have k2 := h2
  have lt2 : ∀ x ∈ p2, x.block < W.heap.size := by obtain ⟨m, hm⟩ := k2; exact DataW.trod_lt m _ _ _ hm
  obtain ⟨cs2, rfl⟩ := open_flat (P := Try.prog) (sh := vtK) (n := 9) Try.underlying29 (by kernel_rfl) (hval 2 29 v2 rfl rfl) h2
  clear hA0 hval0
  refine (walk W cs0 cs1 cs2).mono fun e W' ⟨he, bel⟩ => ?_
  subst he
  exact ⟨_, rfl, _, _, _, [], _, [], hW', trodAll_mk1 (shut_bool Try.underlying4 _), (trodAll_cons_mk (Below.trod laidOut (by kernel_rfl) (of_decide_eq_true (by kernel_rfl)) k0 bel lt0) (trodAll_cons_mk (Below.trod laidOut (by kernel_rfl) (of_decide_eq_true (by kernel_rfl)) k1 bel lt1) (trodAll_cons_mk (Below.trod laidOut (by kernel_rfl) (of_decide_eq_true (by kernel_rfl)) k2 bel lt2) trodAll_mk0))), rfl, bel.frame _, fun h => by cases h⟩

theorem over : Rows.seatPromiseRow.holds Try.pinned (OpenSpec.ofChange Rows.seatPromiseSpec) :=
  OpenClaim.holds_of_wide 6 Try.f6 rfl rfl rfl rfl rfl rfl rfl ⟨rfl, rfl, rfl, rfl, rfl⟩ rfl rfl rfl rfl rfl (by kernel_rfl) Try.func6 (by kernel_rfl)
    (of_decide_eq_true (by kernel_rfl)) (by unfold Func.isWrapper; first | (rw [if_pos (by decide +kernel)]; kernel_rfl) | (rw [if_neg (by decide +kernel)]; exact ⟨rfl, rfl⟩))
    (fun os started H enc _ => lifted os started H enc)

/-- ████ THE STATEMENT ████ -/
theorem proved : Rows.SeatPromiseSaid := over
#print axioms proved
end Go.Proofs.Ytkcjfkdlgjblgab.seatPromise
