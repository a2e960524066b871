/- CopiesRise: a store never lowers a stamp. -/
import Derived.Test.YtcplbpnpcmgjfabRows
import Derived.Test.YtcplbpnpcmgjfabVf
import Derived.Test.YtcplbpnpcmgjfabYs
import Derived.WalkKit
import Derived.ProofKit
import Derived.OpenShut
import Derived.ShutString
import Derived.ChangeOld
import Derived.Below
import Derived.SizedLaws
namespace Go.Proofs.Ytcplbpnpcmgjfab.copiesRise
open Go.ChangeShapes Go.WideShapes Go.ChangeAt Go.RowKit
open Go.ChangeMaps (open_string shut_string)

theorem own : ownKnob Try.prog.godebug = none := by kernel_rfl
theorem laidOut : laidOutB Try.prog = true := by kernel_rfl

theorem run_rise (a b : Int) (s : ByteArray) (p q : Int) (z : ByteArray) : evV K8 noL Try.f3 [.agg ⟨[.int .i64 a, .int .i64 b, .string s]⟩, .agg ⟨[.int .i64 p, .int .i64 q, .string z]⟩] [] = tst (soE ((a, b), s) ((p, q), z) != (0 : Int)) (Out.done AE.ret { slots := [some (Value.bool (bif true then decide (((Prod.fst (Prod.fst (soV ((a, b), s) ((p, q), z))), Prod.snd (Prod.fst (soV ((a, b), s) ((p, q), z)))), Prod.snd (soV ((a, b), s) ((p, q), z))) = (((0 : Int), (0 : Int)), { data := #[] })) else !decide (((Prod.fst (Prod.fst (soV ((a, b), s) ((p, q), z))), Prod.snd (Prod.fst (soV ((a, b), s) ((p, q), z)))), Prod.snd (soV ((a, b), s) ((p, q), z))) = (((0 : Int), (0 : Int)), { data := #[] }))))], heap := [] }) (tst (!slt ((Prod.fst (soV ((a, b), s) ((p, q), z))).1, (Prod.fst (soV ((a, b), s) ((p, q), z))).2) (a, b)) (tst (!slt ((Prod.fst (soV ((a, b), s) ((p, q), z))).1, (Prod.fst (soV ((a, b), s) ((p, q), z))).2) (p, q)) (tst (bif true then decide (((Prod.fst (Prod.fst (soV ((a, b), s) ((p, q), z))), Prod.snd (Prod.fst (soV ((a, b), s) ((p, q), z)))), Prod.snd (soV ((a, b), s) ((p, q), z))) = ((a, b), s)) else !decide (((Prod.fst (Prod.fst (soV ((a, b), s) ((p, q), z))), Prod.snd (Prod.fst (soV ((a, b), s) ((p, q), z)))), Prod.snd (soV ((a, b), s) ((p, q), z))) = ((a, b), s))) (Out.done AE.ret { slots := [some (Value.bool true)], heap := [] }) (Out.done AE.ret { slots := [some (Value.bool (bif true then decide (((Prod.fst (Prod.fst (soV ((a, b), s) ((p, q), z))), Prod.snd (Prod.fst (soV ((a, b), s) ((p, q), z)))), Prod.snd (soV ((a, b), s) ((p, q), z))) = ((p, q), z)) else !decide (((Prod.fst (Prod.fst (soV ((a, b), s) ((p, q), z))), Prod.snd (Prod.fst (soV ((a, b), s) ((p, q), z)))), Prod.snd (soV ((a, b), s) ((p, q), z))) = ((p, q), z))))], heap := [] })) (Out.done AE.ret { slots := [some (Value.bool false)], heap := [] })) (Out.done AE.ret { slots := [some (Value.bool false)], heap := [] })) := by kernel_rfl
theorem prod_eta (c : Cp) : ((c.1.1, c.1.2), c.2) = c := rfl
theorem law_sat (cs0 cs1 : List Value) : Bnd [.val (.agg ⟨norm cpK cs0⟩), .val (.agg ⟨norm cpK cs1⟩)] → (evV K8 noL Try.f3 (canonA 0 [.val (.agg ⟨norm cpK cs0⟩), .val (.agg ⟨norm cpK cs1⟩)]) (canonH [.val (.agg ⟨norm cpK cs0⟩), .val (.agg ⟨norm cpK cs1⟩)])).sat fun _ S => S.slots = [some (.bool true)] := fun _ => by
  show (evV K8 noL Try.f3 [.agg ⟨[.int .i64 (intV (hdV cs0)), .int .i64 (intV (hdV (tlV cs0))), .string (strV (hdV (tlV (tlV cs0))))]⟩, .agg ⟨[.int .i64 (intV (hdV cs1)), .int .i64 (intV (hdV (tlV cs1))), .string (strV (hdV (tlV (tlV cs1))))]⟩] []).sat _
  generalize intV (hdV cs0) = a
  generalize intV (hdV (tlV cs0)) = b
  generalize strV (hdV (tlV (tlV cs0))) = s
  generalize intV (hdV cs1) = p
  generalize intV (hdV (tlV cs1)) = q
  generalize strV (hdV (tlV (tlV cs1))) = z
  rw [run_rise a b s p q z]
  generalize hc : (((a, b), s) : Cp) = c
  generalize hd : (((p, q), z) : Cp) = d
  have e1 : (a, b) = c.1 := by rw [← hc]
  have e2 : (p, q) = d.1 := by rw [← hd]
  rw [e1, e2]
  refine sat_tst (fun h => ?_) (fun h => ?_)
  · have h : soE c d ≠ 0 := by simpa using h
    show _ = _
    rw [soV_no h]
    rfl
  · have h : soE c d = 0 := by simpa using h
    rw [soV_yes h]
    have g := ltr_ge c d
    refine sat_tst (fun _ => ?_) (fun h => ?_)
    · refine sat_tst (fun _ => ?_) (fun h => ?_)
      · refine sat_tst (fun _ => rfl) (fun h => ?_)
        have o : ltr c d = d := (ltr_or c d).resolve_left fun e => by
          rw [e] at h
          simp at h
        show _ = _
        rw [o]
        simp
      · have h : slt (ltr c d).1 d.1 = true := by simpa using h
        rw [g.2] at h
        cases h
    · have h : slt (ltr c d).1 c.1 = true := by simpa using h
      rw [g.1] at h
      cases h

theorem K8_P : K8.P = Try.prog := rfl
theorem walk (W : World) (cs0 : List Value) (cs1 : List Value) : Calls Try.prog 3 #[.agg ⟨norm cpK cs0⟩, .agg ⟨norm cpK cs1⟩] W fun e w' => e = .returned (.bool true) ∧ Below W.heap.size W w' := by
  rewrite [← K8_P]
  refine law_ok (W := W) K8_ok (L := noL) (f := 3) (fn := Try.f3) Try.func3 (no_loops rfl) (cas := [.val (.agg ⟨norm cpK cs0⟩), .val (.agg ⟨norm cpK cs1⟩)]) (us := [.agg ⟨norm cpK cs0⟩, .agg ⟨norm cpK cs1⟩]) (r := .bool true) rfl rfl ?_ (@law_sat cs0 cs1)
  intro i c u hc hu
  match i, hc, hu with
  | 0, hc, hu => cases hc; cases hu; exact ⟨rfl, rfl⟩
  | 1, hc, hu => cases hc; cases hu; exact ⟨rfl, rfl⟩
  | i + 2, hc, hu => simp at hc

set_option maxRecDepth 100000 in
theorem lifted (os : Os) (started : os.Started) (H : Type) (enc : TypeId × Value → H) :
    ReturnsInHanded {} Try.checked os 3 .any (Rows.copiesRiseSpec.pre6 enc Try.prog Try.f3 Rows.copiesRiseRow.domain false) (Rows.copiesRiseSpec.post enc Try.prog Try.f3 false true false false) := by
  refine returnsInHanded_of_change_sized (C := Try.checked) own started (by kernel_rfl) Try.func3
    (ChangeSpec.witness6 (enc := enc) (C := Try.checked) false ⟨#[], #[.agg ⟨norm cpK []⟩, .agg ⟨norm cpK []⟩], []⟩ 8 (by kernel_rfl) (by kernel_rfl) (by kernel_rfl) (by kernel_rfl)) ?_
  intro W base args ds gs before hval0 hW hcnd hsz0 _
  have hsz : (DataW.weightsEach Try.prog (Try.f3.params.toList ++ Rows.copiesRiseSpec.plain.varTypes Try.prog) (ds ++ gs)).all (· ≤ reachBytes) = true := hsz0
  clear hsz0
  have hval : ∀ (j : Nat) t v, Try.f3.params[j]? = some t → args[j]? = some v → Value.okWide Try.prog W .any base t v := hval0
  have hW' := hW
  obtain ⟨p, q, hA0, hV, rfl, hfz, hnd⟩ := hW
  have hA : DataW.TrodAll enc Try.prog W 0 (fun _ => true) true Try.f3.params.toList args.toList ds p := hA0
  rw [Try.params3] at hA hval hsz
  obtain ⟨v0, vs0, d0, ds0, p0, q0, hargs, rfl, rfl, h0, r0⟩ := trodAll_cons hA
  obtain ⟨v1, vs1, d1, ds1, p1, q1, rfl, rfl, rfl, h1, r1⟩ := trodAll_cons r0
  obtain ⟨rfl, rfl, rfl⟩ := trodAll_nil r1
  obtain rfl : args = #[v0, v1] := by cases args; simp_all
  obtain ⟨rfl, rfl⟩ := trodVars_none hV
  have k0 := h0
  have lt0 : ∀ x ∈ p0, x.block < W.heap.size := by obtain ⟨m, hm⟩ := k0; exact DataW.trod_lt m _ _ _ hm
  obtain ⟨cs0, rfl⟩ := open_flat (P := Try.prog) (sh := cpK) (n := 9) Try.underlying25 (by kernel_rfl) (hval 0 25 v0 rfl rfl) h0
  have k1 := h1
  have lt1 : ∀ x ∈ p1, x.block < W.heap.size := by obtain ⟨m, hm⟩ := k1; exact DataW.trod_lt m _ _ _ hm
  obtain ⟨cs1, rfl⟩ := open_flat (P := Try.prog) (sh := cpK) (n := 9) Try.underlying25 (by kernel_rfl) (hval 1 25 v1 rfl rfl) h1
  clear hA0 hval0
  refine (walk W cs0 cs1).mono fun e W' ⟨he, bel⟩ => ?_
  subst he
  exact ⟨_, rfl, _, _, _, [], _, [], hW', trodAll_mk1 (shut_bool Try.underlying4 _), (trodAll_cons_mk (Below.trod laidOut (by kernel_rfl) (of_decide_eq_true (by kernel_rfl)) k0 bel lt0) (trodAll_cons_mk (Below.trod laidOut (by kernel_rfl) (of_decide_eq_true (by kernel_rfl)) k1 bel lt1) trodAll_mk0)), rfl, bel.frame _, fun h => by cases h⟩

theorem over : Rows.copiesRiseRow.holds Try.pinned (OpenSpec.ofChange Rows.copiesRiseSpec) :=
  OpenClaim.holds_of_wide 3 Try.f3 rfl rfl rfl rfl rfl rfl rfl ⟨rfl, rfl, rfl, rfl, rfl⟩ rfl rfl rfl rfl rfl (by kernel_rfl) Try.func3 (by kernel_rfl)
    (of_decide_eq_true (by kernel_rfl)) (by unfold Func.isWrapper; first | (rw [if_pos (by decide +kernel)]; kernel_rfl) | (rw [if_neg (by decide +kernel)]; exact ⟨rfl, rfl⟩))
    (fun os started H enc _ => lifted os started H enc)

/-- ████ THE STATEMENT ████ -/
theorem proved : Rows.CopiesRiseSaid := over
#print axioms proved
end Go.Proofs.Ytcplbpnpcmgjfab.copiesRise
