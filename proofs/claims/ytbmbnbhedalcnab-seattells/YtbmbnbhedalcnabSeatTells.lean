/- CheckVote, CheckSeat and Serve of package seat answer just what the document says, errors too: SeatTells returns true for every seat and vote, and leaves its arguments alone; no condition. -/
import Derived.Test.YtbmbnbhedalcnabRows
import Derived.Test.YtbmbnbhedalcnabXw
import Derived.Test.YtbmbnbhedalcnabZy
import Derived.WalkKit
import Derived.ProofKit
import Derived.OpenShut
import Derived.ShutString
import Derived.ChangeOld
import Derived.Below
import Derived.SizedLaws
namespace Go.Proofs.Ytbmbnbhedalcnab.seatTells
open Go.ChangeShapes Go.WideShapes Go.ChangeAt Go.RowKit
open Go.ChangeMaps (open_string shut_string)

theorem own : ownKnob Try.prog.godebug = none := by kernel_rfl
theorem laidOut : laidOutB Try.prog = true := by kernel_rfl

abbrev seK : List LK := [.kInt .i64, .kInt .i64, .kInt .i64, .kInt .i64, .kStr]
abbrev bO (b : Bool) : Out := .done .ret ⟨[some (.bool b)], []⟩
theorem run_tells (a b t w : Int) (s : ByteArray) (k bd n x y : Int) (z : ByteArray) : evV K25 noL Try.f3 [seA a b t w s, voA k bd n x y z] [] =
    tst (x_cvote k bd n x y z == x_rcv k bd n x y z) (tst (x_cseat a b t w s == x_rcs a b t w s) (tst (bif true then decide (x0_serve a b t w s k bd n x y z = x0_serve a b t w s k bd n x y z ∧ x1_serve a b t w s k bd n x y z = x1_serve a b t w s k bd n x y z ∧ x2_serve a b t w s k bd n x y z = x2_serve a b t w s k bd n x y z ∧ x3_serve a b t w s k bd n x y z = x3_serve a b t w s k bd n x y z ∧ x4_serve a b t w s k bd n x y z = x4_serve a b t w s k bd n x y z) else !decide (x0_serve a b t w s k bd n x y z = x0_serve a b t w s k bd n x y z ∧ x1_serve a b t w s k bd n x y z = x1_serve a b t w s k bd n x y z ∧ x2_serve a b t w s k bd n x y z = x2_serve a b t w s k bd n x y z ∧ x3_serve a b t w s k bd n x y z = x3_serve a b t w s k bd n x y z ∧ x4_serve a b t w s k bd n x y z = x4_serve a b t w s k bd n x y z))
      (.ask (n5_serve a b t w s k bd n x y z + 0 ≤ n5_serve a b t w s k bd n x y z ∧ n5_serve a b t w s k bd n x y z ≤ 140737488355328) (.ask (n5_serve a b t w s k bd n x y z + 0 ≤ n5_serve a b t w s k bd n x y z ∧ n5_serve a b t w s k bd n x y z ≤ 140737488355328)
        (tst (bif Nat.beq (n5_serve a b t w s k bd n x y z) (n5_serve a b t w s k bd n x y z) then sameN (g5_serve a b t w s k bd n x y z) (g5_serve a b t w s k bd n x y z) (n5_serve a b t w s k bd n x y z) else false) (bO (x6_serve a b t w s k bd n x y z == x6_serve a b t w s k bd n x y z)) (bO false)))) (bO false)) (bO false)) (bO false) := by kernel_rfl
theorem n5_le (a b t w : Int) (s : ByteArray) (k bd n x y : Int) (z : ByteArray) : n5_serve a b t w s k bd n x y z ≤ 1 := by
  unfold n5_serve
  cases (x_cseat a b t w s != 0) <;> cases (x_cvote k bd n x y z != 0) <;> cases (k == 1) <;> cases slt (a, b) (x, y) <;> cases (k == 3) <;> cases (!slt (x, y) (a, b)) <;> decide
theorem vEq_refl (g : Nat → List Value) (j : Nat) : vEq g g j = true := by unfold vEq; simp
theorem sameN_refl (g : Nat → List Value) : ∀ n, sameN g g n = true
  | 0 => rfl
  | n + 1 => by show (sameN g g n && vEq g g n) = true; rw [sameN_refl g n, vEq_refl]; rfl
theorem law_sat (cs0 cs1 : List Value) : Bnd [.val (.agg ⟨norm seK cs0⟩), .val (.agg ⟨norm vtK cs1⟩)] → (evV K25 noL Try.f3 (canonA 0 [.val (.agg ⟨norm seK cs0⟩), .val (.agg ⟨norm vtK cs1⟩)]) (canonH [.val (.agg ⟨norm seK cs0⟩), .val (.agg ⟨norm vtK cs1⟩)])).sat fun _ S => S.slots = [some (.bool true)] := fun _ => by
  show (evV K25 noL Try.f3 [seA (intV (hdV cs0)) (intV (hdV (tlV cs0))) (intV (hdV (tlV (tlV cs0)))) (intV (hdV (tlV (tlV (tlV cs0))))) (strV (hdV (tlV (tlV (tlV (tlV cs0)))))), voA (intV (hdV cs1)) (intV (hdV (tlV cs1))) (intV (hdV (tlV (tlV cs1)))) (intV (hdV (tlV (tlV (tlV cs1))))) (intV (hdV (tlV (tlV (tlV (tlV cs1)))))) (strV (hdV (tlV (tlV (tlV (tlV (tlV cs1))))))) ] []).sat _
  generalize intV (hdV cs0) = a
  generalize intV (hdV (tlV cs0)) = b
  generalize intV (hdV (tlV (tlV cs0))) = t
  generalize intV (hdV (tlV (tlV (tlV cs0)))) = w
  generalize strV (hdV (tlV (tlV (tlV (tlV cs0))))) = s
  generalize intV (hdV cs1) = k
  generalize intV (hdV (tlV cs1)) = bd
  generalize intV (hdV (tlV (tlV cs1))) = n
  generalize intV (hdV (tlV (tlV (tlV cs1)))) = x
  generalize intV (hdV (tlV (tlV (tlV (tlV cs1))))) = y
  generalize strV (hdV (tlV (tlV (tlV (tlV (tlV cs1)))))) = z
  rw [run_tells a b t w s k bd n x y z, rcv_eq, rcs_eq]
  have tt : ∀ {c : Bool} {o : Out} {Φ : Lf}, c = true → o.sat Φ → (tst c o (bO false)).sat Φ := fun h1 h2 => by subst h1; exact h2
  have h5 := n5_le a b t w s k bd n x y z
  refine tt (by simp) (tt (by simp) (tt ?_ (sat_ask ⟨Nat.le_refl _, by omega⟩ (sat_ask ⟨Nat.le_refl _, by omega⟩ (tt ?_ ?_)))))
  · exact decide_eq_true ⟨rfl, rfl, rfl, rfl, rfl⟩
  · rw [Nat.beq_refl, sameN_refl]; rfl
  · show [some (Value.bool _)] = [some (Value.bool true)]
    simp

theorem K25_P : K25.P = Try.prog := rfl
theorem walk (W : World) (cs0 : List Value) (cs1 : List Value) : Calls Try.prog 3 #[.agg ⟨norm seK cs0⟩, .agg ⟨norm vtK cs1⟩] W fun e w' => e = .returned (.bool true) ∧ Below W.heap.size W w' := by
  rewrite [← K25_P]
  refine law_ok (W := W) K25_ok (L := noL) (f := 3) (fn := Try.f3) Try.func3 (no_loops rfl) (ks := [.one .val, .one .val]) (cas := [.val (.agg ⟨norm seK cs0⟩), .val (.agg ⟨norm vtK cs1⟩)]) (us := [.agg ⟨norm seK cs0⟩, .agg ⟨norm vtK cs1⟩]) (ful := [.agg ⟨norm seK cs0⟩, .agg ⟨norm vtK cs1⟩]) (r := .bool true) rfl rfl rfl ?_ (@law_sat cs0 cs1)
  intro i c u hc hu
  match i, hc, hu with
  | 0, hc, hu => cases hc; cases hu; exact ⟨rfl, rfl⟩
  | 1, hc, hu => cases hc; cases hu; exact ⟨rfl, rfl⟩
  | i + 2, hc, hu => simp at hc

set_option maxRecDepth 100000 in
theorem lifted (os : Os) (started : os.Started) (H : Type) (enc : TypeId × Value → H) :
    ReturnsInHanded {} Try.checked os 3 .any (Rows.seatTellsSpec.pre6 enc Try.prog Try.f3 Rows.seatTellsRow.domain false) (Rows.seatTellsSpec.post enc Try.prog Try.f3 false true false false) := by
  refine returnsInHanded_of_change_sized (C := Try.checked) own started (by kernel_rfl) Try.func3
    (ChangeSpec.witness6 (enc := enc) (C := Try.checked) false ⟨#[], #[.agg ⟨norm seK []⟩, .agg ⟨norm vtK []⟩], []⟩ 8 (by kernel_rfl) (by kernel_rfl) (by kernel_rfl) (by kernel_rfl)) ?_
  intro W base args ds gs before hval0 hW hcnd hsz0 _
  have hsz : (DataW.weightsEach Try.prog (Try.f3.params.toList ++ Rows.seatTellsSpec.plain.varTypes Try.prog) (ds ++ gs)).all (· ≤ reachBytes) = true := hsz0
  clear hsz0
  have hval : ∀ (j : Nat) t v, Try.f3.params[j]? = some t → args[j]? = some v → Value.okWide Try.prog W .any base t v := hval0
  have hW' := hW
  obtain ⟨p, q, hA0, hV, rfl, hfz, hnd⟩ := hW
  have hA : DataW.TrodAll enc Try.prog W 0 (fun _ => true) true Try.f3.params.toList args.toList ds p := hA0
  rw [Try.params3] at hA hval hsz
  obtain ⟨v0, vs0, d0, ds0, p0, q0, hargs, rfl, rfl, h0, r0⟩ := trodAll_cons hA
  obtain ⟨v1, vs1, d1, ds1, p1, q1, rfl, rfl, rfl, h1, r1⟩ := trodAll_cons r0
  obtain ⟨rfl, rfl, rfl⟩ := trodAll_nil r1
  obtain rfl : args = #[v0, v1] := by cases args; simp_all
  obtain ⟨rfl, rfl⟩ := trodVars_none hV
  have k0 := h0
  have lt0 : ∀ x ∈ p0, x.block < W.heap.size := by obtain ⟨m, hm⟩ := k0; exact DataW.trod_lt m _ _ _ hm
  obtain ⟨cs0, rfl⟩ := open_flat (P := Try.prog) (sh := seK) (n := 9) Try.underlying27 (by kernel_rfl) (hval 0 27 v0 rfl rfl) h0
  have k1 := h1
  have lt1 : ∀ x ∈ p1, x.block < W.heap.size := by obtain ⟨m, hm⟩ := k1; exact DataW.trod_lt m _ _ _ hm
  obtain ⟨cs1, rfl⟩ := open_flat (P := Try.prog) (sh := vtK) (n := 9) Try.underlying29 (by kernel_rfl) (hval 1 29 v1 rfl rfl) h1
  clear hA0 hval0
  refine (walk W cs0 cs1).mono fun e W' ⟨he, bel⟩ => ?_
  subst he
  exact ⟨_, rfl, _, _, _, [], _, [], hW', trodAll_mk1 (shut_bool Try.underlying4 _), (trodAll_cons_mk (Below.trod laidOut (by kernel_rfl) (of_decide_eq_true (by kernel_rfl)) k0 bel lt0) (trodAll_cons_mk (Below.trod laidOut (by kernel_rfl) (of_decide_eq_true (by kernel_rfl)) k1 bel lt1) trodAll_mk0)), rfl, bel.frame _, fun h => by cases h⟩

theorem over : Rows.seatTellsRow.holds Try.pinned (OpenSpec.ofChange Rows.seatTellsSpec) :=
  OpenClaim.holds_of_wide 3 Try.f3 rfl rfl rfl rfl rfl rfl rfl ⟨rfl, rfl, rfl, rfl, rfl⟩ rfl rfl rfl rfl rfl (by kernel_rfl) Try.func3 (by kernel_rfl)
    (of_decide_eq_true (by kernel_rfl)) (by unfold Func.isWrapper; first | (rw [if_pos (by decide +kernel)]; kernel_rfl) | (rw [if_neg (by decide +kernel)]; exact ⟨rfl, rfl⟩))
    (fun os started H enc _ => lifted os started H enc)

/-- ████ THE STATEMENT ████ -/
theorem proved : Rows.SeatTellsSaid := over
#print axioms proved
end Go.Proofs.Ytbmbnbhedalcnab.seatTells
