/- Serve answers just what the document says, errors too. -/
import Derived.Test.YtbmbnbhedalcnaaRows
import Derived.Test.YtbmbnbhedalcnaaMm
import Derived.Test.YtbmbnbhedalcnaaZw
import Derived.WalkKit
import Derived.ProofKit
import Derived.OpenShut
import Derived.ShutString
import Derived.ChangeOld
import Derived.Below
import Derived.SizedLaws
namespace Go.Proofs.Ytbmbnbhedalcnaa.askServes
open Go.ChangeShapes Go.WideShapes Go.ChangeAt Go.RowKit
open Go.ChangeMaps (open_string shut_string)

theorem own : ownKnob Try.prog.godebug = none := by kernel_rfl
theorem laidOut : laidOutB Try.prog = true := by kernel_rfl

abbrev cpK : List LK := [.kInt .i64, .kInt .i64, .kStr]
abbrev bO (b : Bool) : Out := .done .ret ⟨[some (.bool b)], []⟩
theorem run_law (t w : Int) (s : ByteArray) (mk mo n x y : Int) (z : ByteArray) : evV K26 noL Try.f5 [.agg ⟨[.int .i64 t, .int .i64 w, .string s]⟩, .agg ⟨[.int .i64 mk, .int .i64 mo, .int .i64 n, .int .i64 x, .int .i64 y, .string z]⟩] [] =
    tst (bif true then decide (x0_serve t w s mk mo n x y z = x0_rsv t w s mk mo n x y z ∧ x1_serve t w s mk mo n x y z = x1_rsv t w s mk mo n x y z ∧ x2_serve t w s mk mo n x y z = x2_rsv t w s mk mo n x y z) else !decide (x0_serve t w s mk mo n x y z = x0_rsv t w s mk mo n x y z ∧ x1_serve t w s mk mo n x y z = x1_rsv t w s mk mo n x y z ∧ x2_serve t w s mk mo n x y z = x2_rsv t w s mk mo n x y z))
      (.ask (n3_serve t w s mk mo n x y z + 0 ≤ n3_serve t w s mk mo n x y z ∧ n3_serve t w s mk mo n x y z ≤ 140737488355328) (.ask (n3_rsv t w s mk mo n x y z + 0 ≤ n3_rsv t w s mk mo n x y z ∧ n3_rsv t w s mk mo n x y z ≤ 140737488355328)
        (tst (bif Nat.beq (n3_serve t w s mk mo n x y z) (n3_rsv t w s mk mo n x y z) then sameN (g3_serve t w s mk mo n x y z) (g3_rsv t w s mk mo n x y z) (n3_serve t w s mk mo n x y z) else false) (bO (x4_serve t w s mk mo n x y z == x4_rsv t w s mk mo n x y z)) (bO false)))) (bO false) := by kernel_rfl
theorem eqT {P : Prop} [Decidable P] (h : P) : (bif true then decide P else !decide P) = true := decide_eq_true h
theorem law_sat (cs0 cs1 : List Value) (_r0 : rngs cpK cs0) (_r1 : rngs msK cs1) : Bnd [.val (.agg ⟨norm cpK cs0⟩), .val (.agg ⟨norm msK cs1⟩)] → (evV K26 noL Try.f5 (regr [.one .val, .one .val] (canonA 0 [.val (.agg ⟨norm cpK cs0⟩), .val (.agg ⟨norm msK cs1⟩)])) (canonH [.val (.agg ⟨norm cpK cs0⟩), .val (.agg ⟨norm msK cs1⟩)])).sat fun _ S => S.slots = [some (.bool true)] := fun _ => by
  show (evV K26 noL Try.f5 [.agg ⟨[.int .i64 (intV (hdV cs0)), .int .i64 (intV (hdV (tlV cs0))), .string (strV (hdV (tlV (tlV cs0))))]⟩, .agg ⟨[.int .i64 (intV (hdV cs1)), .int .i64 (intV (hdV (tlV cs1))), .int .i64 (intV (hdV (tlV (tlV cs1)))), .int .i64 (intV (hdV (tlV (tlV (tlV cs1))))), .int .i64 (intV (hdV (tlV (tlV (tlV (tlV cs1)))))), .string (strV (hdV (tlV (tlV (tlV (tlV (tlV cs1)))))))]⟩] []).sat _
  generalize intV (hdV cs0) = t
  generalize intV (hdV (tlV cs0)) = w
  generalize strV (hdV (tlV (tlV cs0))) = s
  generalize intV (hdV cs1) = mk
  generalize intV (hdV (tlV cs1)) = mo
  generalize intV (hdV (tlV (tlV cs1))) = n
  generalize intV (hdV (tlV (tlV (tlV cs1)))) = x
  generalize intV (hdV (tlV (tlV (tlV (tlV cs1))))) = y
  generalize strV (hdV (tlV (tlV (tlV (tlV (tlV cs1)))))) = z
  rw [run_law t w s mk mo n x y z]
  obtain ⟨e0, e1, e2, e3, e4, e5⟩ := @rsv_eq t w s mk mo n x y z
  rw [e0, e1, e2, e3, e4, e5]
  have h3 := @n3_le t w s mk mo n x y z
  have tt : ∀ {c : Bool} {o : Out} {Φ : Lf}, c = true → o.sat Φ → (tst c o (bO false)).sat Φ := fun h1 h2 => by subst h1; exact h2
  refine tt ?_ (sat_ask ⟨Nat.le_refl _, by omega⟩ (sat_ask ⟨Nat.le_refl _, by omega⟩ (tt ?_ ?_)))
  · exact eqT ⟨rfl, rfl, rfl⟩
  · rw [Nat.beq_refl, sameN_refl]; rfl
  · rw [beq_self_eq_true]
    rfl

theorem K26_P : K26.P = Try.prog := rfl
theorem walk (W : World) (cs0 : List Value) (rg0 : rngs cpK cs0) (cs1 : List Value) (rg1 : rngs msK cs1) : Calls Try.prog 5 #[.agg ⟨norm cpK cs0⟩, .agg ⟨norm msK cs1⟩] W fun e w' => e = .returned (.bool true) ∧ Below W.heap.size W w' := by
  rewrite [← K26_P]
  refine law_ok (W := W) K26_ok (L := noL) (f := 5) (fn := Try.f5) Try.func5 (no_loops rfl) (ks := [.one .val, .one .val]) (cas := [.val (.agg ⟨norm cpK cs0⟩), .val (.agg ⟨norm msK cs1⟩)]) (us := [.agg ⟨norm cpK cs0⟩, .agg ⟨norm msK cs1⟩]) (ful := [.agg ⟨norm cpK cs0⟩, .agg ⟨norm msK cs1⟩]) (r := .bool true) rfl rfl rfl ?_ (@law_sat cs0 cs1 rg0 rg1)
  intro i c u hc hu
  match i, hc, hu with
  | 0, hc, hu => cases hc; cases hu; exact ⟨rfl, rfl⟩
  | 1, hc, hu => cases hc; cases hu; exact ⟨rfl, rfl⟩
  | i + 2, hc, hu => simp at hc

set_option maxRecDepth 100000 in
theorem lifted (os : Os) (started : os.Started) (H : Type) (enc : TypeId × Value → H) :
    ReturnsInHanded {} Try.checked os 5 .any (Rows.askServesSpec.pre6 enc Try.prog Try.f5 Rows.askServesRow.domain false) (Rows.askServesSpec.post enc Try.prog Try.f5 false true false false) := by
  refine returnsInHanded_of_change_sized (C := Try.checked) own started (by kernel_rfl) Try.func5
    (ChangeSpec.witness6 (enc := enc) (C := Try.checked) false ⟨#[], #[.agg ⟨norm cpK []⟩, .agg ⟨norm msK []⟩], []⟩ 8 (by kernel_rfl) (by kernel_rfl) (by kernel_rfl) (by kernel_rfl)) ?_
  intro W base args ds gs before hval0 hW hcnd hsz0 _
  have hsz : (DataW.weightsEach Try.prog (Try.f5.params.toList ++ Rows.askServesSpec.plain.varTypes Try.prog) (ds ++ gs)).all (· ≤ reachBytes) = true := hsz0
  clear hsz0
  have hval : ∀ (j : Nat) t v, Try.f5.params[j]? = some t → args[j]? = some v → Value.okWide Try.prog W .any base t v := hval0
  have hW' := hW
  obtain ⟨p, q, hA0, hV, rfl, hfz, hnd⟩ := hW
  have hA : DataW.TrodAll enc Try.prog W 0 (fun _ => true) true Try.f5.params.toList args.toList ds p := hA0
  rw [Try.params5] at hA hval hsz
  obtain ⟨v0, vs0, d0, ds0, p0, q0, hargs, rfl, rfl, h0, r0⟩ := trodAll_cons hA
  obtain ⟨v1, vs1, d1, ds1, p1, q1, rfl, rfl, rfl, h1, r1⟩ := trodAll_cons r0
  obtain ⟨rfl, rfl, rfl⟩ := trodAll_nil r1
  obtain rfl : args = #[v0, v1] := by cases args; simp_all
  obtain ⟨rfl, rfl⟩ := trodVars_none hV
  have k0 := h0
  have lt0 : ∀ x ∈ p0, x.block < W.heap.size := by obtain ⟨m, hm⟩ := k0; exact DataW.trod_lt m _ _ _ hm
  obtain ⟨cs0, rfl, rg0⟩ := open_flatR (P := Try.prog) (sh := cpK) (n := 9) Try.underlying35 (by kernel_rfl) (hval 0 35 v0 rfl rfl) h0
  have k1 := h1
  have lt1 : ∀ x ∈ p1, x.block < W.heap.size := by obtain ⟨m, hm⟩ := k1; exact DataW.trod_lt m _ _ _ hm
  obtain ⟨cs1, rfl, rg1⟩ := open_flatR (P := Try.prog) (sh := msK) (n := 9) Try.underlying40 (by kernel_rfl) (hval 1 40 v1 rfl rfl) h1
  clear hA0 hval0
  refine (walk W cs0 rg0 cs1 rg1).mono fun e W' ⟨he, bel⟩ => ?_
  subst he
  exact ⟨_, rfl, _, _, _, [], _, [], hW', trodAll_mk1 (shut_bool Try.underlying4 _), (trodAll_cons_mk (Below.trod laidOut (by kernel_rfl) (of_decide_eq_true (by kernel_rfl)) k0 bel lt0) (trodAll_cons_mk (Below.trod laidOut (by kernel_rfl) (of_decide_eq_true (by kernel_rfl)) k1 bel lt1) trodAll_mk0)), rfl, bel.frame _, fun h => by cases h⟩

theorem over : Rows.askServesRow.holds Try.pinned (OpenSpec.ofChange Rows.askServesSpec) :=
  OpenClaim.holds_of_wide 5 Try.f5 rfl rfl rfl rfl rfl rfl rfl ⟨rfl, rfl, rfl, rfl, rfl⟩ rfl rfl rfl rfl rfl (by kernel_rfl) Try.func5 (by kernel_rfl)
    (of_decide_eq_true (by kernel_rfl)) (by unfold Func.isWrapper; first | (rw [if_pos (by decide +kernel)]; kernel_rfl) | (rw [if_neg (by decide +kernel)]; exact ⟨rfl, rfl⟩))
    (fun os started H enc _ => lifted os started H enc)

/-- ████ THE STATEMENT ████ -/
theorem proved : Rows.AskServesSaid := over
#print axioms proved
end Go.Proofs.Ytbmbnbhedalcnaa.askServes
