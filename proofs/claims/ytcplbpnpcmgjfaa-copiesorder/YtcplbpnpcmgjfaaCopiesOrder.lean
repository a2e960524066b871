/- CopiesOrder: in whatever order two writes come, and if one comes again, a node has the same. -/
import Derived.Test.YtcplbpnpcmgjfaaRows
import Derived.Test.YtcplbpnpcmgjfaaVp
import Derived.Test.YtcplbpnpcmgjfaaYs
import Derived.WalkKit
import Derived.ProofKit
import Derived.OpenShut
import Derived.ShutString
import Derived.ChangeOld
import Derived.Below
import Derived.SizedLaws
namespace Go.Proofs.Ytcplbpnpcmgjfaa.copiesOrder
open Go.ChangeShapes Go.WideShapes Go.ChangeAt Go.RowKit
open Go.ChangeMaps (open_string shut_string)

theorem own : ownKnob Try.prog.godebug = none := by kernel_rfl
theorem laidOut : laidOutB Try.prog = true := by kernel_rfl

theorem law_sat (cs0 cs1 cs2 : List Value) : Bnd [.val (.agg ⟨norm cpK cs0⟩), .val (.agg ⟨norm cpK cs1⟩), .val (.agg ⟨norm cpK cs2⟩)] → (evV K8s noL Try.f8 (canonA 0 [.val (.agg ⟨norm cpK cs0⟩), .val (.agg ⟨norm cpK cs1⟩), .val (.agg ⟨norm cpK cs2⟩)]) (canonH [.val (.agg ⟨norm cpK cs0⟩), .val (.agg ⟨norm cpK cs1⟩), .val (.agg ⟨norm cpK cs2⟩)])).sat fun _ S => S.slots = [some (.bool true)] := fun _ => by
  show (evV K8s noL Try.f8 [.agg ⟨[.int .i64 (intV (hdV cs0)), .int .i64 (intV (hdV (tlV cs0))), .string (strV (hdV (tlV (tlV cs0))))]⟩, .agg ⟨[.int .i64 (intV (hdV cs1)), .int .i64 (intV (hdV (tlV cs1))), .string (strV (hdV (tlV (tlV cs1))))]⟩, .agg ⟨[.int .i64 (intV (hdV cs2)), .int .i64 (intV (hdV (tlV cs2))), .string (strV (hdV (tlV (tlV cs2))))]⟩] []).sat _
  rw [run_order]
  exact o0_sat _ _ _

theorem K8s_P : K8s.P = Try.prog := rfl
theorem walk (W : World) (cs0 : List Value) (cs1 : List Value) (cs2 : List Value) : Calls Try.prog 8 #[.agg ⟨norm cpK cs0⟩, .agg ⟨norm cpK cs1⟩, .agg ⟨norm cpK cs2⟩] W fun e w' => e = .returned (.bool true) ∧ Below W.heap.size W w' := by
  rewrite [← K8s_P]
  refine law_ok (W := W) K8s_ok (L := noL) (f := 8) (fn := Try.f8) Try.func8 (no_loops rfl) (cas := [.val (.agg ⟨norm cpK cs0⟩), .val (.agg ⟨norm cpK cs1⟩), .val (.agg ⟨norm cpK cs2⟩)]) (us := [.agg ⟨norm cpK cs0⟩, .agg ⟨norm cpK cs1⟩, .agg ⟨norm cpK cs2⟩]) (r := .bool true) rfl rfl ?_ (@law_sat cs0 cs1 cs2)
  intro i c u hc hu
  match i, hc, hu with
  | 0, hc, hu => cases hc; cases hu; exact ⟨rfl, rfl⟩
  | 1, hc, hu => cases hc; cases hu; exact ⟨rfl, rfl⟩
  | 2, hc, hu => cases hc; cases hu; exact ⟨rfl, rfl⟩
  | i + 3, hc, hu => simp at hc

set_option maxRecDepth 100000 in
theorem lifted (os : Os) (started : os.Started) (H : Type) (enc : TypeId × Value → H) :
    ReturnsInHanded {} Try.checked os 8 .any (Rows.copiesOrderSpec.pre6 enc Try.prog Try.f8 Rows.copiesOrderRow.domain false) (Rows.copiesOrderSpec.post enc Try.prog Try.f8 false true false false) := by
  refine returnsInHanded_of_change_sized (C := Try.checked) own started (by kernel_rfl) Try.func8
    (ChangeSpec.witness6 (enc := enc) (C := Try.checked) false ⟨#[], #[.agg ⟨norm cpK []⟩, .agg ⟨norm cpK []⟩, .agg ⟨norm cpK []⟩], []⟩ 8 (by kernel_rfl) (by kernel_rfl) (by kernel_rfl) (by kernel_rfl)) ?_
  intro W base args ds gs before hval0 hW hcnd hsz0 _
  have hsz : (DataW.weightsEach Try.prog (Try.f8.params.toList ++ Rows.copiesOrderSpec.plain.varTypes Try.prog) (ds ++ gs)).all (· ≤ reachBytes) = true := hsz0
  clear hsz0
  have hval : ∀ (j : Nat) t v, Try.f8.params[j]? = some t → args[j]? = some v → Value.okWide Try.prog W .any base t v := hval0
  have hW' := hW
  obtain ⟨p, q, hA0, hV, rfl, hfz, hnd⟩ := hW
  have hA : DataW.TrodAll enc Try.prog W 0 (fun _ => true) true Try.f8.params.toList args.toList ds p := hA0
  rw [Try.params8] at hA hval hsz
  obtain ⟨v0, vs0, d0, ds0, p0, q0, hargs, rfl, rfl, h0, r0⟩ := trodAll_cons hA
  obtain ⟨v1, vs1, d1, ds1, p1, q1, rfl, rfl, rfl, h1, r1⟩ := trodAll_cons r0
  obtain ⟨v2, vs2, d2, ds2, p2, q2, rfl, rfl, rfl, h2, r2⟩ := trodAll_cons r1
  obtain ⟨rfl, rfl, rfl⟩ := trodAll_nil r2
  obtain rfl : args = #[v0, v1, v2] := by cases args; simp_all
  obtain ⟨rfl, rfl⟩ := trodVars_none hV
  have k0 := h0
  have lt0 : ∀ x ∈ p0, x.block < W.heap.size := by obtain ⟨m, hm⟩ := k0; exact DataW.trod_lt m _ _ _ hm
  obtain ⟨cs0, rfl⟩ := open_flat (P := Try.prog) (sh := cpK) (n := 9) Try.underlying37 (by kernel_rfl) (hval 0 37 v0 rfl rfl) h0
  have k1 := h1
  have lt1 : ∀ x ∈ p1, x.block < W.heap.size := by obtain ⟨m, hm⟩ := k1; exact DataW.trod_lt m _ _ _ hm
  obtain ⟨cs1, rfl⟩ := open_flat (P := Try.prog) (sh := cpK) (n := 9) Try.underlying37 (by kernel_rfl) (hval 1 37 v1 rfl rfl) h1
  have k2 := h2
  have lt2 : ∀ x ∈ p2, x.block < W.heap.size := by obtain ⟨m, hm⟩ := k2; exact DataW.trod_lt m _ _ _ hm
  obtain ⟨cs2, rfl⟩ := open_flat (P := Try.prog) (sh := cpK) (n := 9) Try.underlying37 (by kernel_rfl) (hval 2 37 v2 rfl rfl) h2
  clear hA0 hval0
  refine (walk W cs0 cs1 cs2).mono fun e W' ⟨he, bel⟩ => ?_
  subst he
  exact ⟨_, rfl, _, _, _, [], _, [], hW', trodAll_mk1 (shut_bool Try.underlying4 _), (trodAll_cons_mk (Below.trod laidOut (by kernel_rfl) (of_decide_eq_true (by kernel_rfl)) k0 bel lt0) (trodAll_cons_mk (Below.trod laidOut (by kernel_rfl) (of_decide_eq_true (by kernel_rfl)) k1 bel lt1) (trodAll_cons_mk (Below.trod laidOut (by kernel_rfl) (of_decide_eq_true (by kernel_rfl)) k2 bel lt2) trodAll_mk0))), rfl, bel.frame _, fun h => by cases h⟩

theorem over : Rows.copiesOrderRow.holds Try.pinned (OpenSpec.ofChange Rows.copiesOrderSpec) :=
  OpenClaim.holds_of_wide 8 Try.f8 rfl rfl rfl rfl rfl rfl rfl ⟨rfl, rfl, rfl, rfl, rfl⟩ rfl rfl rfl rfl rfl (by kernel_rfl) Try.func8 (by kernel_rfl)
    (of_decide_eq_true (by kernel_rfl)) (by unfold Func.isWrapper; first | (rw [if_pos (by decide +kernel)]; kernel_rfl) | (rw [if_neg (by decide +kernel)]; exact ⟨rfl, rfl⟩))
    (fun os started H enc _ => lifted os started H enc)

/-- ████ THE STATEMENT ████ -/
theorem proved : Rows.CopiesOrderSaid := over
#print axioms proved
end Go.Proofs.Ytcplbpnpcmgjfaa.copiesOrder
