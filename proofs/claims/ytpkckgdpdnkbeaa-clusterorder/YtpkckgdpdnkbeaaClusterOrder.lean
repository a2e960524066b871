/- Linearizable: an operation of a cluster that begins behind the end of another one has a stamp that is no less, and above it, if it writes, whatever is lost, comes twice, or out of turn. -/
import Derived.Test.YtpkckgdpdnkbeaaRows
import Derived.Test.YtpkckgdpdnkbeaaDj
import Derived.Test.YtpkckgdpdnkbeaaZw
import Derived.WalkKit
import Derived.ProofKit
import Derived.OpenShut
import Derived.ShutString
import Derived.ChangeOld
import Derived.Below
import Derived.SizedLaws
namespace Go.Proofs.Ytpkckgdpdnkbeaa.clusterOrder
open Go.ChangeShapes Go.WideShapes Go.ChangeAt Go.RowKit
open Go.ChangeMaps (open_string shut_string)

theorem own : ownKnob Try.prog.godebug = none := by kernel_rfl
theorem laidOut : laidOutB Try.prog = true := by kernel_rfl

abbrev bO (b : Bool) : Out := .done .ret ⟨[some (.bool b)], []⟩
def ordO (C : CL) (i k : Int) : Out :=
  tst (decide (i < 0)) (bO true) (tst (decide (i ≥ (C.b : Int))) (bO true) (tst (decide (k < 0)) (bO true) (tst (decide (k ≥ (C.b : Int))) (bO true)
    (.ask (0 ≤ i ∧ i < (C.b : Int)) (.ask (i.toNat + 0 < C.b) (.ask (0 ≤ k ∧ k < (C.b : Int)) (.ask (k.toNat + 0 < C.b)
      (tst (mNo (C.ak i.toNat) != 3) (bO true) (tst (mNo (C.ak k.toNat) != 3) (bO true)
        (.ask (0 ≤ i ∧ i < (C.c : Int)) (.ask (i.toNat + 0 < C.c) (.ask (0 ≤ k ∧ k < (C.c : Int)) (.ask (k.toNat + 0 < C.c)
          (tst (decide (tE (C.tm i.toNat) ≥ tB (C.tm k.toNat))) (bO true) (tst (mOp (C.ak k.toNat) == 2) (bO (slt (bS (C.ak i.toNat)) (bS (C.ak k.toNat)))) (bO (!slt (bS (C.ak k.toNat)) (bS (C.ak i.toNat)))))))))))))))))))
set_option maxRecDepth 100000 in
theorem run_order (m l : Nat) (w sg : Nat → List Value) (need i k : Int) : evV K40 noL Try.f5 [.agg ⟨[.slice (some ⟨0, 0, some 0⟩) m m, .int .i64 need]⟩, .slice (some ⟨1, 0, some 0⟩) l l, .int .i64 i, .int .i64 k] [.recs wtK m w, .recs spK l sg] =
    .ask (m + 0 ≤ m ∧ m ≤ 140737488355328) (.ask (l + 0 ≤ l ∧ l ≤ 140737488355328) (tst (!ranB m w need l) (bO true) (ordO (ranC m w need l sg) i k))) := by kernel_rfl
theorem law_sat (len0 : Nat) (g0 : Nat → List Value) (x0 : Int) (len1 : Nat) (g1 : Nat → List Value) (x2 x3 : Int) (_r0 : ∀ j, j < len0 → rngs wtK (g0 j)) (_r1 : (Lit.int .i64 x0).wf = true) (_r2 : ∀ j, j < len1 → rngs spK (g1 j)) (_r3 : (Lit.int .i64 x2).wf = true) (_r4 : (Lit.int .i64 x3).wf = true) : Bnd [.rows wtK len0 g0, .val (.int .i64 x0), .rows spK len1 g1, .val (.int .i64 x2), .val (.int .i64 x3)] → (evV K40 noL Try.f5 (regr [.agg [.rows wtK, .val], .one (.rows spK), .one .val, .one .val] (canonA 0 [.rows wtK len0 g0, .val (.int .i64 x0), .rows spK len1 g1, .val (.int .i64 x2), .val (.int .i64 x3)])) (canonH [.rows wtK len0 g0, .val (.int .i64 x0), .rows spK len1 g1, .val (.int .i64 x2), .val (.int .i64 x3)])).sat fun _ S => S.slots = [some (.bool true)] := fun hb => by
  have hb0 : len0 ≤ 140737488355328 := hb.1
  have hb1 : len1 ≤ 140737488355328 := hb.2.1
  show (evV K40 noL Try.f5 [.agg ⟨[.slice (some ⟨0, 0, some 0⟩) len0 len0, .int .i64 x0]⟩, .slice (some ⟨1, 0, some 0⟩) len1 len1, .int .i64 x2, .int .i64 x3] [.recs wtK len0 g0, .recs spK len1 g1]).sat _
  rw [run_order]
  refine sat_ask ⟨by omega, hb0⟩ (sat_ask ⟨by omega, hb1⟩ (sat_tst (fun _ => rfl) fun hr => ?_))
  have hr : ranB len0 g0 x0 len1 = true := by simpa using hr
  obtain ⟨rt, -, inv⟩ := ord_all hr g1
  generalize ranC len0 g0 x0 len1 g1 = C at rt inv ⊢
  have hcb := rt.cb
  refine sat_tst (fun _ => rfl) fun h1 => sat_tst (fun _ => rfl) fun h2 => sat_tst (fun _ => rfl) fun h3 => sat_tst (fun _ => rfl) fun h4 => ?_
  have h1 := of_decide_eq_false h1
  have h2 := of_decide_eq_false h2
  have h3 := of_decide_eq_false h3
  have h4 := of_decide_eq_false h4
  refine sat_ask ⟨by omega, by omega⟩ (sat_ask (by omega) (sat_ask ⟨by omega, by omega⟩ (sat_ask (by omega) (sat_tst (fun _ => rfl) fun p1 => sat_tst (fun _ => rfl) fun p2 => sat_ask ⟨by omega, by omega⟩ (sat_ask (by omega) (sat_ask ⟨by omega, by omega⟩ (sat_ask (by omega) (sat_tst (fun _ => rfl) fun p3 => ?_))))))))
  have p1 : mNo (C.ak x2.toNat) = 3 := bne_f2 p1
  have p2 : mNo (C.ak x3.toNat) = 3 := bne_f2 p2
  have p3 := of_decide_eq_false p3
  have bef : Bef C x2.toNat x3.toNat := ⟨by omega, by omega, p1, by omega⟩
  have fin := inv.aft x2.toNat x3.toNat bef (by rw [p2]; decide)
  refine sat_tst (fun p4 => ?_) fun p4 => ?_
  · have := fin.1 (beq_iff_eq.1 p4)
    rw [this]
    rfl
  · have := fin.2 (beq_f p4)
    rw [show slt (bS (C.ak x3.toNat)) (bS (C.ak x2.toNat)) = false from this]
    rfl

theorem K40_P : K40.P = Try.prog := rfl
theorem walk (W : World) {a0 : Option Addr} (len0 cap0 : Nat) (g0 : Nat → List Value) (x0 : Int) (w0 : ArgOk W (.rows wtK len0 g0) (.slice a0 len0 cap0)) (rg0 : ∀ j, j < len0 → rngs wtK (g0 j)) (rx0 : (Lit.int .i64 x0).wf = true) {a1 : Option Addr} (len1 cap1 : Nat) (g1 : Nat → List Value) (w1 : ArgOk W (.rows spK len1 g1) (.slice a1 len1 cap1)) (rg1 : ∀ j, j < len1 → rngs spK (g1 j)) (x2 : Int) (rg2 : (Lit.int .i64 x2).wf = true) (x3 : Int) (rg3 : (Lit.int .i64 x3).wf = true) : Calls Try.prog 5 #[.agg ⟨[.slice a0 len0 cap0, .int .i64 x0]⟩, .slice a1 len1 cap1, .int .i64 x2, .int .i64 x3] W fun e w' => e = .returned (.bool true) ∧ Below W.heap.size W w' := by
  rewrite [← K40_P]
  refine law_ok (W := W) K40_ok (L := noL) (f := 5) (fn := Try.f5) Try.func5 (no_loops rfl) (ks := [.agg [.rows wtK, .val], .one (.rows spK), .one .val, .one .val]) (cas := [.rows wtK len0 g0, .val (.int .i64 x0), .rows spK len1 g1, .val (.int .i64 x2), .val (.int .i64 x3)]) (us := [.agg ⟨[.slice a0 len0 cap0, .int .i64 x0]⟩, .slice a1 len1 cap1, .int .i64 x2, .int .i64 x3]) (ful := [.slice a0 len0 cap0, .int .i64 x0, .slice a1 len1 cap1, .int .i64 x2, .int .i64 x3]) (r := .bool true) rfl rfl rfl ?_ (@law_sat len0 g0 x0 len1 g1 x2 x3 rg0 rx0 rg1 rg2 rg3)
  intro i c u hc hu
  match i, hc, hu with
  | 0, hc, hu => cases hc; cases hu; exact w0
  | 1, hc, hu => cases hc; cases hu; exact ⟨rfl, rfl⟩
  | 2, hc, hu => cases hc; cases hu; exact w1
  | 3, hc, hu => cases hc; cases hu; exact ⟨rfl, rfl⟩
  | 4, hc, hu => cases hc; cases hu; exact ⟨rfl, rfl⟩
  | i + 5, hc, hu => simp at hc

set_option maxRecDepth 100000 in
theorem lifted (os : Os) (started : os.Started) (H : Type) (enc : TypeId × Value → H) :
    ReturnsInHanded {} Try.checked os 5 .any (Rows.clusterOrderSpec.pre6 enc Try.prog Try.f5 Rows.clusterOrderRow.domain false) (Rows.clusterOrderSpec.post enc Try.prog Try.f5 false true false false) := by
  refine returnsInHanded_of_change_sized (C := Try.checked) own started (by kernel_rfl) Try.func5
    (ChangeSpec.witness6 (enc := enc) (C := Try.checked) false ⟨#[], #[.agg ⟨[.slice none 0 0, .int .i64 0]⟩, .slice none 0 0, .int .i64 0, .int .i64 0], []⟩ 8 (by kernel_rfl) (by kernel_rfl) (by kernel_rfl) (by kernel_rfl)) ?_
  intro W base args ds gs before hval0 hW hcnd hsz0 _
  have hsz : (DataW.weightsEach Try.prog (Try.f5.params.toList ++ Rows.clusterOrderSpec.plain.varTypes Try.prog) (ds ++ gs)).all (· ≤ reachBytes) = true := hsz0
  clear hsz0
  have hval : ∀ (j : Nat) t v, Try.f5.params[j]? = some t → args[j]? = some v → Value.okWide Try.prog W .any base t v := hval0
  have hW' := hW
  obtain ⟨p, q, hA0, hV, rfl, hfz, hnd⟩ := hW
  have hA : DataW.TrodAll enc Try.prog W 0 (fun _ => true) true Try.f5.params.toList args.toList ds p := hA0
  rw [Try.params5] at hA hval hsz
  obtain ⟨v0, vs0, d0, ds0, p0, q0, hargs, rfl, rfl, h0, r0⟩ := trodAll_cons hA
  obtain ⟨v1, vs1, d1, ds1, p1, q1, rfl, rfl, rfl, h1, r1⟩ := trodAll_cons r0
  obtain ⟨v2, vs2, d2, ds2, p2, q2, rfl, rfl, rfl, h2, r2⟩ := trodAll_cons r1
  obtain ⟨v3, vs3, d3, ds3, p3, q3, rfl, rfl, rfl, h3, r3⟩ := trodAll_cons r2
  obtain ⟨rfl, rfl, rfl⟩ := trodAll_nil r3
  obtain rfl : args = #[v0, v1, v2, v3] := by cases args; simp_all
  obtain ⟨rfl, rfl⟩ := trodVars_none hV
  have k0 := h0
  have lt0 : ∀ x ∈ p0, x.block < W.heap.size := by obtain ⟨m, hm⟩ := k0; exact DataW.trod_lt m _ _ _ hm
  obtain ⟨a0, len0, cap0, x0, g0, rfl, w0, rg0, rx0⟩ := open_rowInt (P := Try.prog) (sh := wtK) (n := 9) (e := 3) (j := 0) Try.underlying24 (by kernel_rfl) rfl rfl (by kernel_rfl) (by kernel_rfl) Try.underlying22 Try.underlying3 (by kernel_rfl) (by kernel_rfl) (by decide) (of_decide_eq_true (by kernel_rfl)) (hval 0 24 v0 rfl rfl) h0 hsz rfl rfl
  obtain ⟨a1, len1, cap1, rfl⟩ := okWide_slice Try.underlying41 (hval 1 41 v1 rfl rfl)
  have k1 := h1
  have lt1 : ∀ x ∈ p1, x.block < W.heap.size := by obtain ⟨m, hm⟩ := k1; exact DataW.trod_lt m _ _ _ hm
  obtain ⟨g1, w1, rg1⟩ : ∃ g, ArgOk W (.rows spK len1 g) (.slice a1 len1 cap1) ∧ ∀ j, j < len1 → rngs spK (g j) := by
    obtain ⟨fuel, hf⟩ := h1
    exact arg_rowsR (P := Try.prog) (sh := spK) (n := 9) (e := 32) (j := 1) Try.underlying41 (by kernel_rfl) (by kernel_rfl) (by decide) (of_decide_eq_true (by kernel_rfl)) hf hsz rfl rfl
  obtain ⟨x2, rfl, rfl, rfl, w2⟩ := open_int Try.underlying3 (hval 2 3 v2 rfl rfl) h2
  obtain ⟨x3, rfl, rfl, rfl, w3⟩ := open_int Try.underlying3 (hval 3 3 v3 rfl rfl) h3
  clear hA0 hval0
  refine (walk W len0 cap0 g0 x0 w0 rg0 rx0 len1 cap1 g1 w1 rg1 x2 w2 x3 w3).mono fun e W' ⟨he, bel⟩ => ?_
  subst he
  exact ⟨_, rfl, _, _, _, [], _, [], hW', trodAll_mk1 (shut_bool Try.underlying4 _), (trodAll_cons_mk (Below.trod laidOut (by kernel_rfl) (of_decide_eq_true (by kernel_rfl)) k0 bel lt0) (trodAll_cons_mk (Below.trod laidOut (by kernel_rfl) (of_decide_eq_true (by kernel_rfl)) k1 bel lt1) (trodAll_cons_mk (shut_int Try.underlying3 w2) (trodAll_cons_mk (shut_int Try.underlying3 w3) trodAll_mk0)))), rfl, bel.frame _, fun h => by cases h⟩

theorem over : Rows.clusterOrderRow.holds Try.pinned (OpenSpec.ofChange Rows.clusterOrderSpec) :=
  OpenClaim.holds_of_wide 5 Try.f5 rfl rfl rfl rfl rfl rfl rfl ⟨rfl, rfl, rfl, rfl, rfl⟩ rfl rfl rfl rfl rfl (by kernel_rfl) Try.func5 (by kernel_rfl)
    (of_decide_eq_true (by kernel_rfl)) (by unfold Func.isWrapper; first | (rw [if_pos (by decide +kernel)]; kernel_rfl) | (rw [if_neg (by decide +kernel)]; exact ⟨rfl, rfl⟩))
    (fun os started H enc _ => lifted os started H enc)

/-- ████ THE STATEMENT ████ -/
theorem proved : Rows.ClusterOrderSaid := over
#print axioms proved
end Go.Proofs.Ytpkckgdpdnkbeaa.clusterOrder
