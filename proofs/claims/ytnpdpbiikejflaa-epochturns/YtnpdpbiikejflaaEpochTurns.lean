/- Turned twice a node is what it was; each turn is one epoch more, and the others stay: EpochTurns returns true for all lists and nodes, and leaves its arguments alone; no condition. -/
import Derived.Test.YtnpdpbiikejflaaRows
import Derived.Test.YtnpdpbiikejflaaEl
import Derived.Test.YtnpdpbiikejflaaZw
import Derived.WalkKit
import Derived.ProofKit
import Derived.OpenShut
import Derived.ShutString
import Derived.ChangeOld
import Derived.Below
import Derived.SizedLaws
namespace Go.Proofs.Ytnpdpbiikejflaa.epochTurns
open Go.ChangeShapes Go.WideShapes Go.ChangeAt Go.RowKit
open Go.ChangeMaps (open_string shut_string)

theorem own : ownKnob Try.prog.godebug = none := by kernel_rfl
theorem laidOut : laidOutB Try.prog = true := by kernel_rfl

abbrev tM (m : Nat) (g : Nat → List Value) (n : Int) : Nat := tuN m g n
abbrev tG (m : Nat) (g : Nat → List Value) (n : Int) : Nat → List Value := tuG m g n
abbrev tN (m : Nat) (g : Nat → List Value) (n : Int) : Nat := tuN (tM m g n) (tG m g n) n
abbrev tW (m : Nat) (g : Nat → List Value) (n : Int) : Int := IntKind.wrap .i64 ((tN m g n : Int) - 1)
abbrev endO (m : Nat) (g : Nat → List Value) (n : Int) : Out := tst (tuE (tM m g n) (tG m g n) n == 0) (.ask (0 ≤ tW m g n ∧ tW m g n < (tN m g n : Int)) (.ask ((tW m g n).toNat + 0 < tN m g n) (.ask (0 ≤ tuW m ∧ tuW m < (m : Int)) (.ask ((tuW m).toNat + 0 < m)
  (bO (me (tuG (tM m g n) (tG m g n) n ((tW m g n).toNat + 0)) == me (g ((tuW m).toNat + 0)))))))) (bO false)
theorem run_turns (m : Nat) (g : Nat → List Value) (n : Int) : evV K18 noL Try.f5 [.slice (some ⟨0, 0, some 0⟩) m m, .int .i64 n] [.recs ekK m g] =
    .ask (m ≤ m ∧ m ≤ 140737488355328) (.ask (aRow1 [.rows ekK m fun j => g j, .val (.int .i64 n)]) (tst (tuE m g n != 0) (bO ((tM m g n : Int) == 0)) (tst ((tM m g n : Int) != IntKind.wrap .i64 ((m : Int) + 1)) (bO false)
      (.ask (0 ≤ (m : Int) ∧ (m : Int) ≤ (tM m g n : Int)) (.ask (m ≤ tM m g n ∧ m ≤ 140737488355328) (.ask (m ≤ m ∧ m ≤ 140737488355328) (tst (!bif Nat.beq m m then sameE (tG m g n) g m else false) (bO false)
        (.ask (tM m g n + 0 ≤ tM m g n ∧ tM m g n ≤ 140737488355328) (.ask (aCk [.rows ekK (tM m g n) (tG m g n)]) (tst (chE (tM m g n) (tG m g n) != 0) (bO false)
          (.ask (tM m g n + 0 ≤ tM m g n ∧ tM m g n ≤ 140737488355328) (.ask (aRow1 [.rows ekK (tM m g n) (tG m g n), .val (.int .i64 n)]) (tst (tuE (tM m g n) (tG m g n) n == 2) (tst ((tM m g n : Int) == 64) (bO true) (endO m g n)) (endO m g n)))))))))))))) := by kernel_rfl
theorem law_sat (len0 : Nat) (g0 : Nat → List Value) (x1 : Int) (r0 : ∀ j, j < len0 → rngs ekK (g0 j)) (_r1 : (Lit.int .i64 x1).wf = true) : Bnd [.rows ekK len0 g0, .val (.int .i64 x1)] → (evV K18 noL Try.f5 (canonA 0 [.rows ekK len0 g0, .val (.int .i64 x1)]) (canonH [.rows ekK len0 g0, .val (.int .i64 x1)])).sat fun _ S => S.slots = [some (.bool true)] := fun hb => by
  have hU : RU len0 g0 := fun j hj => U_wf (r0 j hj).2.1
  have hbm : len0 ≤ 140737488355328 := hb.1
  show (evV K18 noL Try.f5 [.slice (some ⟨0, 0, some 0⟩) len0 len0, .int .i64 x1] [.recs ekK len0 g0]).sat _
  rw [run_turns]
  refine sat_ask ⟨Nat.le_refl _, hbm⟩ (sat_ask hU (sat_tst (fun h => ?_) fun h => ?_))
  · have e : tM len0 g0 x1 = 0 := by show tuN len0 g0 x1 = 0; unfold tuN; rw [h]; rfl
    rw [e]
    rfl
  have h : tuE len0 g0 x1 = 0 := by simpa using h
  obtain ⟨h0, h1, h2, h3, h4, h5⟩ := tuE_zero h
  obtain ⟨hm, hf⟩ := chE_le h0
  obtain ⟨q1, q2, q3, q4, q5, q6⟩ := turn_ok hU h
  have eM : tM len0 g0 x1 = len0 + 1 := q1
  have eE := tuE_of (n := x1) q3 (show len0 + 1 ≠ 0 by omega) h3 h4
  unfold endO tW tN
  rw [eM]
  refine sat_tst (fun h => ?_) fun _ => sat_ask ⟨by omega, by omega⟩ (sat_ask ⟨by omega, hbm⟩ (sat_ask ⟨Nat.le_refl _, hbm⟩ (sat_tst (fun h => ?_) fun _ => sat_ask ⟨Nat.le_refl _, by omega⟩ (sat_ask q2 (sat_tst (fun h => ?_) fun _ => sat_ask ⟨Nat.le_refl _, by omega⟩ (sat_ask q2 ?_))))))
  · rw [wrap_inc (by omega)] at h
    simp at h
  · rw [show Nat.beq len0 len0 = true from Nat.beq_refl len0, show sameE (tG len0 g0 x1) g0 len0 = true from q4] at h
    cases h
  · rw [show (chE (len0 + 1) (tG len0 g0 x1) != 0) = false from q3] at h
    cases h
  · by_cases h64 : len0 + 1 = 64
    · have e2 : tuE (len0 + 1) (tG len0 g0 x1) x1 = 2 := by
        refine eE.trans ?_
        rw [show Nat.beq (len0 + 1) 64 = true from by rw [h64]; rfl]
        rfl
      rw [e2]
      refine sat_tst (fun _ => sat_tst (fun _ => rfl) fun h => ?_) fun h => by cases h
      have : ((len0 + 1 : Nat) : Int) = 64 := by omega
      rw [this] at h
      cases h
    · have e2 : tuE (len0 + 1) (tG len0 g0 x1) x1 = 0 := by
        refine eE.trans ?_
        rw [nbeq h64, show tuX (len0 + 1) (tuG len0 g0 x1) x1 = me (g0 (len0 - 1)) from q5, show (me (g0 (len0 - 1)) == 0) = false by simpa using q6]
        rfl
      rw [e2]
      refine sat_tst (fun h => by cases h) fun _ => sat_tst (fun _ => ?_) fun h => by cases h
      have eN : tuN (len0 + 1) (tG len0 g0 x1) x1 = len0 + 2 := by unfold tuN; rw [e2]; rfl
      rw [eN]
      have w1 : IntKind.wrap .i64 (((len0 + 2 : Nat) : Int) - 1) = ((len0 + 1 : Nat) : Int) := pred_at (k := len0 + 2) (by omega) (by omega)
      have w2 : tuW len0 = ((len0 - 1 : Nat) : Int) := pred_at (by omega) (by omega)
      rw [w1, w2]
      refine sat_ask ⟨by omega, by omega⟩ (sat_ask (by show len0 + 1 + 0 < len0 + 2; omega) (sat_ask ⟨by omega, by omega⟩ (sat_ask (by show len0 - 1 + 0 < len0; omega) (ret_b ?_))))
      show (me (tuG (len0 + 1) (tG len0 g0 x1) x1 (len0 + 1)) == me (g0 (len0 - 1))) = true
      rw [tuG_hi]
      show (tuX (len0 + 1) (tuG len0 g0 x1) x1 == me (g0 (len0 - 1))) = true
      rw [q5]
      simp

theorem K18_P : K18.P = Try.prog := rfl
theorem walk (W : World) {a0 : Option Addr} (len0 cap0 : Nat) (g0 : Nat → List Value) (w0 : ArgOk W (.rows ekK len0 g0) (.slice a0 len0 cap0)) (rg0 : ∀ j, j < len0 → rngs ekK (g0 j)) (x1 : Int) (rg1 : (Lit.int .i64 x1).wf = true) : Calls Try.prog 5 #[.slice a0 len0 cap0, .int .i64 x1] W fun e w' => e = .returned (.bool true) ∧ Below W.heap.size W w' := by
  rewrite [← K18_P]
  refine law_ok (W := W) K18_ok (L := noL) (f := 5) (fn := Try.f5) Try.func5 (no_loops rfl) (ks := [.one (.rows ekK), .one .val]) (cas := [.rows ekK len0 g0, .val (.int .i64 x1)]) (us := [.slice a0 len0 cap0, .int .i64 x1]) (ful := [.slice a0 len0 cap0, .int .i64 x1]) (r := .bool true) rfl rfl rfl ?_ (@law_sat len0 g0 x1 rg0 rg1)
  intro i c u hc hu
  match i, hc, hu with
  | 0, hc, hu => cases hc; cases hu; exact w0
  | 1, hc, hu => cases hc; cases hu; exact ⟨rfl, rfl⟩
  | i + 2, hc, hu => simp at hc

set_option maxRecDepth 100000 in
theorem lifted (os : Os) (started : os.Started) (H : Type) (enc : TypeId × Value → H) :
    ReturnsInHanded {} Try.checked os 5 .any (Rows.epochTurnsSpec.pre6 enc Try.prog Try.f5 Rows.epochTurnsRow.domain false) (Rows.epochTurnsSpec.post enc Try.prog Try.f5 false true false false) := by
  refine returnsInHanded_of_change_sized (C := Try.checked) own started (by kernel_rfl) Try.func5
    (ChangeSpec.witness6 (enc := enc) (C := Try.checked) false ⟨#[], #[.slice none 0 0, .int .i64 0], []⟩ 8 (by kernel_rfl) (by kernel_rfl) (by kernel_rfl) (by kernel_rfl)) ?_
  intro W base args ds gs before hval0 hW hcnd hsz0 _
  have hsz : (DataW.weightsEach Try.prog (Try.f5.params.toList ++ Rows.epochTurnsSpec.plain.varTypes Try.prog) (ds ++ gs)).all (· ≤ reachBytes) = true := hsz0
  clear hsz0
  have hval : ∀ (j : Nat) t v, Try.f5.params[j]? = some t → args[j]? = some v → Value.okWide Try.prog W .any base t v := hval0
  have hW' := hW
  obtain ⟨p, q, hA0, hV, rfl, hfz, hnd⟩ := hW
  have hA : DataW.TrodAll enc Try.prog W 0 (fun _ => true) true Try.f5.params.toList args.toList ds p := hA0
  rw [Try.params5] at hA hval hsz
  obtain ⟨v0, vs0, d0, ds0, p0, q0, hargs, rfl, rfl, h0, r0⟩ := trodAll_cons hA
  obtain ⟨v1, vs1, d1, ds1, p1, q1, rfl, rfl, rfl, h1, r1⟩ := trodAll_cons r0
  obtain ⟨rfl, rfl, rfl⟩ := trodAll_nil r1
  obtain rfl : args = #[v0, v1] := by cases args; simp_all
  obtain ⟨rfl, rfl⟩ := trodVars_none hV
  obtain ⟨a0, len0, cap0, rfl⟩ := okWide_slice Try.underlying22 (hval 0 22 v0 rfl rfl)
  have k0 := h0
  have lt0 : ∀ x ∈ p0, x.block < W.heap.size := by obtain ⟨m, hm⟩ := k0; exact DataW.trod_lt m _ _ _ hm
  obtain ⟨g0, w0, rg0⟩ : ∃ g, ArgOk W (.rows ekK len0 g) (.slice a0 len0 cap0) ∧ ∀ j, j < len0 → rngs ekK (g j) := by
    obtain ⟨fuel, hf⟩ := h0
    exact arg_rowsR (P := Try.prog) (sh := ekK) (n := 9) (e := 25) (j := 0) Try.underlying22 (by kernel_rfl) (by kernel_rfl) (by decide) (of_decide_eq_true (by kernel_rfl)) hf hsz rfl rfl
  obtain ⟨x1, rfl, rfl, rfl, w1⟩ := open_int Try.underlying3 (hval 1 3 v1 rfl rfl) h1
  clear hA0 hval0
  refine (walk W len0 cap0 g0 w0 rg0 x1 w1).mono fun e W' ⟨he, bel⟩ => ?_
  subst he
  exact ⟨_, rfl, _, _, _, [], _, [], hW', trodAll_mk1 (shut_bool Try.underlying4 _), (trodAll_cons_mk (Below.trod laidOut (by kernel_rfl) (of_decide_eq_true (by kernel_rfl)) k0 bel lt0) (trodAll_cons_mk (shut_int Try.underlying3 w1) trodAll_mk0)), rfl, bel.frame _, fun h => by cases h⟩

theorem over : Rows.epochTurnsRow.holds Try.pinned (OpenSpec.ofChange Rows.epochTurnsSpec) :=
  OpenClaim.holds_of_wide 5 Try.f5 rfl rfl rfl rfl rfl rfl rfl ⟨rfl, rfl, rfl, rfl, rfl⟩ rfl rfl rfl rfl rfl (by kernel_rfl) Try.func5 (by kernel_rfl)
    (of_decide_eq_true (by kernel_rfl)) (by unfold Func.isWrapper; first | (rw [if_pos (by decide +kernel)]; kernel_rfl) | (rw [if_neg (by decide +kernel)]; exact ⟨rfl, rfl⟩))
    (fun os started H enc _ => lifted os started H enc)

/-- ████ THE STATEMENT ████ -/
theorem proved : Rows.EpochTurnsSaid := over
#print axioms proved
end Go.Proofs.Ytnpdpbiikejflaa.epochTurns
