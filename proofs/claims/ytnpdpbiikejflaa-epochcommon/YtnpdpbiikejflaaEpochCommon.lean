/- Who is common to all is a member of each, and all that each has is common; of fewer epochs no fewer are: EpochCommon returns true for all lists, places and nodes, and leaves its arguments alone; no condition. -/
import Derived.Test.YtnpdpbiikejflaaRows
import Derived.Test.YtnpdpbiikejflaaEn
import Derived.Test.YtnpdpbiikejflaaZw
import Derived.WalkKit
import Derived.ProofKit
import Derived.OpenShut
import Derived.ShutString
import Derived.ChangeOld
import Derived.Below
import Derived.SizedLaws
namespace Go.Proofs.Ytnpdpbiikejflaa.epochCommon
open Go.ChangeShapes Go.WideShapes Go.ChangeAt Go.RowKit
open Go.ChangeMaps (open_string shut_string)

theorem own : ownKnob Try.prog.godebug = none := by kernel_rfl
theorem laidOut : laidOutB Try.prog = true := by kernel_rfl

abbrev pI (i : Int) : Nat := (IntKind.wrap .i64 (i + 1)).toNat - 0
abbrev early (m : Nat) (g : Nat → List Value) : Out := tst (chE m g == 0) (bO true) (bO (coE m g == 0))
theorem run_common (m : Nat) (g : Nat → List Value) (i n : Int) : evV K18 lEC Try.f7 [.slice (some ⟨0, 0, some 0⟩) m m, .int .i64 i, .int .i64 n] [.recs ekK m g] =
    .ask (m ≤ m ∧ m ≤ 140737488355328) (.ask (aCk [.rows ekK m g]) (tst (chE m g != 0) (early m g) (tst (decide (i < 0)) (early m g) (tst (decide (i ≥ (m : Int))) (early m g)
      (.ask (0 ≤ IntKind.wrap .i64 (i + 1) ∧ IntKind.wrap .i64 (i + 1) ≤ (m : Int)) (.ask (pI i + 0 ≤ m ∧ pI i ≤ 140737488355328) (.ask (aCk [.rows ekK (pI i) g]) (tst (chE (pI i) g != 0) (bO false)
        (tst (andNotI (coE m g) (coE (pI i) g) != 0) (bO false) (.ask (0 ≤ i ∧ i < (m : Int)) (.ask (i.toNat + 0 < m) (tst (andNotI (coE m g) (me (g (i.toNat + 0))) != 0) (bO false)
          (.ask (m = m ∧ m = m ∧ true = true ∧ (0 : Int) = 0 ∧ m ≤ 140737488355328 ∧ RU m g) (.ask (aIn [.val (.int .u64 (coE m g)), .val (.int .i64 (and63 n))]) (bO ((coE m g).toNat.testBit (and63 n).toNat == allIn g (and63 n).toNat m)))))))))))))))) := by kernel_rfl
theorem law_sat (len0 : Nat) (g0 : Nat → List Value) (x1 x2 : Int) (r0 : ∀ j, j < len0 → rngs ekK (g0 j)) (r1 : (Lit.int .i64 x1).wf = true) (_r2 : (Lit.int .i64 x2).wf = true) : Bnd [.rows ekK len0 g0, .val (.int .i64 x1), .val (.int .i64 x2)] → (evV K18 lEC Try.f7 (canonA 0 [.rows ekK len0 g0, .val (.int .i64 x1), .val (.int .i64 x2)]) (canonH [.rows ekK len0 g0, .val (.int .i64 x1), .val (.int .i64 x2)])).sat fun _ S => S.slots = [some (.bool true)] := fun hb => by
  have hU : RU len0 g0 := fun j hj => U_wf (r0 j hj).2.1
  have hbm : len0 ≤ 140737488355328 := hb.1
  show (evV K18 lEC Try.f7 [.slice (some ⟨0, 0, some 0⟩) len0 len0, .int .i64 x1, .int .i64 x2] [.recs ekK len0 g0]).sat _
  rw [run_common]
  have early_ok : (early len0 g0).sat fun _ S => S.slots = [some (.bool true)] := sat_tst (fun _ => rfl) fun h => ret_b (by
    have h : (chE len0 g0 != 0) = true := by simpa using h
    unfold coE
    rw [h]
    rfl)
  refine sat_ask ⟨Nat.le_refl _, hbm⟩ (sat_ask hU (sat_tst (fun _ => early_ok) fun h0 => sat_tst (fun _ => early_ok) fun h1 => sat_tst (fun _ => early_ok) fun h2 => ?_))
  obtain ⟨hm, hf⟩ := chE_le h0
  have h1 := of_decide_eq_false h1
  have h2 := of_decide_eq_false h2
  obtain ⟨i, rfl⟩ : ∃ i : Nat, x1 = i := ⟨x1.toNat, by omega⟩
  have hi : i < len0 := by omega
  have ew : IntKind.wrap .i64 ((i : Int) + 1) = ((i + 1 : Nat) : Int) := wrap_inc (by omega)
  have ep : pI (i : Int) = i + 1 := by unfold pI; rw [ew]; rfl
  have h3 : (chE (i + 1) g0 != 0) = false := by
    have hz : firstE g0 (i + 1) = 0 := by
      by_cases e : i + 1 = len0
      · rw [e]; exact hf
      · exact (firstE_all hf (i + 1) (by omega)).2
    have : chE (i + 1) g0 = 0 := by
      unfold chE
      rw [decide_eq_false (show ¬ 64 < i + 1 by omega), hz]
      rfl
    rw [this]
    rfl
  have c1 : coE len0 g0 = ((andK g0 len0 : Nat) : Int) := by unfold coE; rw [h0]; rfl
  have c2 : coE (i + 1) g0 = ((andK g0 (i + 1) : Nat) : Int) := by unfold coE; rw [h3]; rfl
  have hl := andK_lt hU len0 (Nat.le_refl _)
  have hl2 := andK_lt hU (i + 1) hi
  obtain ⟨m', em⟩ : ∃ m', len0 = m' + 1 := ⟨len0 - 1, by omega⟩
  have bits : ∀ b, (andK g0 len0).testBit b = allIn g0 b len0 := fun b => by rw [em]; exact andK_bit g0 b m'
  obtain ⟨a, ea, ha64⟩ := (hU i hi).nat
  rw [ep, ew]
  refine sat_ask ⟨by omega, by omega⟩ (sat_ask ⟨by omega, by omega⟩ (sat_ask (fun j hj => hU j (by omega)) (sat_tst (fun h => ?_) fun _ => sat_tst (fun h => ?_) fun _ => sat_ask ⟨by omega, by omega⟩ (sat_ask (by show i + 0 < len0; omega) (sat_tst (fun h => ?_) fun _ => sat_ask ⟨rfl, rfl, rfl, rfl, hbm, hU⟩ (sat_ask ⟨by rw [c1]; exact U_of hl, (and63_ok x2).1⟩ (ret_b ?_)))))))
  · rw [h3] at h; cases h
  · rw [c1, c2, andNot_zero hl hl2 fun b h => by rw [andK_bit]; rw [bits] at h; exact allIn_less h (by omega)] at h
    cases h
  · rw [show (i : Int).toNat + 0 = i from rfl, c1, ea, andNot_zero hl ha64 fun b h => by
      rw [bits] at h
      have := allIn_at h i hi
      rw [ea] at this
      exact this] at h
    cases h
  · rw [c1]
    show ((andK g0 len0).testBit (and63 x2).toNat == allIn g0 (and63 x2).toNat len0) = true
    rw [bits]
    simp

theorem K18_P : K18.P = Try.prog := rfl
theorem walk (W : World) {a0 : Option Addr} (len0 cap0 : Nat) (g0 : Nat → List Value) (w0 : ArgOk W (.rows ekK len0 g0) (.slice a0 len0 cap0)) (rg0 : ∀ j, j < len0 → rngs ekK (g0 j)) (x1 : Int) (rg1 : (Lit.int .i64 x1).wf = true) (x2 : Int) (rg2 : (Lit.int .i64 x2).wf = true) : Calls Try.prog 7 #[.slice a0 len0 cap0, .int .i64 x1, .int .i64 x2] W fun e w' => e = .returned (.bool true) ∧ Below W.heap.size W w' := by
  rewrite [← K18_P]
  refine law_ok (W := W) K18_ok (L := lEC) (f := 7) (fn := Try.f7) Try.func7 (one_loop (by kernel_rfl) lEC_ok) (ks := [.one (.rows ekK), .one .val, .one .val]) (cas := [.rows ekK len0 g0, .val (.int .i64 x1), .val (.int .i64 x2)]) (us := [.slice a0 len0 cap0, .int .i64 x1, .int .i64 x2]) (ful := [.slice a0 len0 cap0, .int .i64 x1, .int .i64 x2]) (r := .bool true) rfl rfl rfl ?_ (@law_sat len0 g0 x1 x2 rg0 rg1 rg2)
  intro i c u hc hu
  match i, hc, hu with
  | 0, hc, hu => cases hc; cases hu; exact w0
  | 1, hc, hu => cases hc; cases hu; exact ⟨rfl, rfl⟩
  | 2, hc, hu => cases hc; cases hu; exact ⟨rfl, rfl⟩
  | i + 3, hc, hu => simp at hc

set_option maxRecDepth 100000 in
theorem lifted (os : Os) (started : os.Started) (H : Type) (enc : TypeId × Value → H) :
    ReturnsInHanded {} Try.checked os 7 .any (Rows.epochCommonSpec.pre6 enc Try.prog Try.f7 Rows.epochCommonRow.domain false) (Rows.epochCommonSpec.post enc Try.prog Try.f7 false true false false) := by
  refine returnsInHanded_of_change_sized (C := Try.checked) own started (by kernel_rfl) Try.func7
    (ChangeSpec.witness6 (enc := enc) (C := Try.checked) false ⟨#[], #[.slice none 0 0, .int .i64 0, .int .i64 0], []⟩ 8 (by kernel_rfl) (by kernel_rfl) (by kernel_rfl) (by kernel_rfl)) ?_
  intro W base args ds gs before hval0 hW hcnd hsz0 _
  have hsz : (DataW.weightsEach Try.prog (Try.f7.params.toList ++ Rows.epochCommonSpec.plain.varTypes Try.prog) (ds ++ gs)).all (· ≤ reachBytes) = true := hsz0
  clear hsz0
  have hval : ∀ (j : Nat) t v, Try.f7.params[j]? = some t → args[j]? = some v → Value.okWide Try.prog W .any base t v := hval0
  have hW' := hW
  obtain ⟨p, q, hA0, hV, rfl, hfz, hnd⟩ := hW
  have hA : DataW.TrodAll enc Try.prog W 0 (fun _ => true) true Try.f7.params.toList args.toList ds p := hA0
  rw [Try.params7] at hA hval hsz
  obtain ⟨v0, vs0, d0, ds0, p0, q0, hargs, rfl, rfl, h0, r0⟩ := trodAll_cons hA
  obtain ⟨v1, vs1, d1, ds1, p1, q1, rfl, rfl, rfl, h1, r1⟩ := trodAll_cons r0
  obtain ⟨v2, vs2, d2, ds2, p2, q2, rfl, rfl, rfl, h2, r2⟩ := trodAll_cons r1
  obtain ⟨rfl, rfl, rfl⟩ := trodAll_nil r2
  obtain rfl : args = #[v0, v1, v2] := by cases args; simp_all
  obtain ⟨rfl, rfl⟩ := trodVars_none hV
  obtain ⟨a0, len0, cap0, rfl⟩ := okWide_slice Try.underlying22 (hval 0 22 v0 rfl rfl)
  have k0 := h0
  have lt0 : ∀ x ∈ p0, x.block < W.heap.size := by obtain ⟨m, hm⟩ := k0; exact DataW.trod_lt m _ _ _ hm
  obtain ⟨g0, w0, rg0⟩ : ∃ g, ArgOk W (.rows ekK len0 g) (.slice a0 len0 cap0) ∧ ∀ j, j < len0 → rngs ekK (g j) := by
    obtain ⟨fuel, hf⟩ := h0
    exact arg_rowsR (P := Try.prog) (sh := ekK) (n := 9) (e := 25) (j := 0) Try.underlying22 (by kernel_rfl) (by kernel_rfl) (by decide) (of_decide_eq_true (by kernel_rfl)) hf hsz rfl rfl
  obtain ⟨x1, rfl, rfl, rfl, w1⟩ := open_int Try.underlying3 (hval 1 3 v1 rfl rfl) h1
  obtain ⟨x2, rfl, rfl, rfl, w2⟩ := open_int Try.underlying3 (hval 2 3 v2 rfl rfl) h2
  clear hA0 hval0
  refine (walk W len0 cap0 g0 w0 rg0 x1 w1 x2 w2).mono fun e W' ⟨he, bel⟩ => ?_
  subst he
  exact ⟨_, rfl, _, _, _, [], _, [], hW', trodAll_mk1 (shut_bool Try.underlying4 _), (trodAll_cons_mk (Below.trod laidOut (by kernel_rfl) (of_decide_eq_true (by kernel_rfl)) k0 bel lt0) (trodAll_cons_mk (shut_int Try.underlying3 w1) (trodAll_cons_mk (shut_int Try.underlying3 w2) trodAll_mk0))), rfl, bel.frame _, fun h => by cases h⟩

theorem over : Rows.epochCommonRow.holds Try.pinned (OpenSpec.ofChange Rows.epochCommonSpec) :=
  OpenClaim.holds_of_wide 7 Try.f7 rfl rfl rfl rfl rfl rfl rfl ⟨rfl, rfl, rfl, rfl, rfl⟩ rfl rfl rfl rfl rfl (by kernel_rfl) Try.func7 (by kernel_rfl)
    (of_decide_eq_true (by kernel_rfl)) (by unfold Func.isWrapper; first | (rw [if_pos (by decide +kernel)]; kernel_rfl) | (rw [if_neg (by decide +kernel)]; exact ⟨rfl, rfl⟩))
    (fun os started H enc _ => lifted os started H enc)

/-- ████ THE STATEMENT ████ -/
theorem proved : Rows.EpochCommonSaid := over
#print axioms proved
end Go.Proofs.Ytnpdpbiikejflaa.epochCommon
