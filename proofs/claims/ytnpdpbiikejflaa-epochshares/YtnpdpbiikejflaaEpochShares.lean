/- Majorities of two epochs side by side always share a node, one that is a member of both: EpochShares returns true for all lists, places and sets, and leaves its arguments alone; no condition. -/
import Derived.Test.YtnpdpbiikejflaaRows
import Derived.Test.YtnpdpbiikejflaaEk
import Derived.Test.YtnpdpbiikejflaaZw
import Derived.WalkKit
import Derived.ProofKit
import Derived.OpenShut
import Derived.ShutString
import Derived.ChangeOld
import Derived.Below
import Derived.SizedLaws
namespace Go.Proofs.Ytnpdpbiikejflaa.epochShares
open Go.ChangeShapes Go.WideShapes Go.ChangeAt Go.RowKit
open Go.ChangeMaps (open_string shut_string)

theorem own : ownKnob Try.prog.godebug = none := by kernel_rfl
theorem laidOut : laidOutB Try.prog = true := by kernel_rfl

abbrev kI (m : Nat) (i : Int) : Int := if IntKind.wrap .i64 ((m : Int) - 1) < IntKind.wrap .i64 (i + 1) then IntKind.wrap .i64 ((m : Int) - 1) else IntKind.wrap .i64 (i + 1)
abbrev gI (g : Nat → List Value) (i : Int) : List Value := g (i.toNat + 0)
theorem run_share (m : Nat) (g : Nat → List Value) (i a b : Int) : evV K18 noL Try.f4 [.slice (some ⟨0, 0, some 0⟩) m m, .int .i64 i, .int .u64 a, .int .u64 b] [.recs ekK m g] =
    .ask (m ≤ m ∧ m ≤ 140737488355328) (.ask (aCk [.rows ekK m fun j => g j]) (tst ((chE m fun j => g j) != 0) (bO true) (tst (decide (i < 0)) (bO true) (tst (decide (i ≥ (m : Int))) (bO true)
      (.ask (0 ≤ i ∧ i < (m : Int)) (.ask (i.toNat + 0 < m) (.ask (mA (no (gI g i)) (me (gI g i)) a) (tst (!mjB (me (gI g i)) a) (bO true)
        (.ask (0 ≤ kI m i ∧ kI m i < (m : Int)) (.ask ((kI m i).toNat + 0 < m) (.ask (mA (no (gI g (kI m i))) (me (gI g (kI m i))) b) (tst (!mjB (me (gI g (kI m i))) b) (bO true)
          (.ask (0 ≤ i ∧ i < (m : Int)) (.ask (i.toNat + 0 < m) (.ask (0 ≤ kI m i ∧ kI m i < (m : Int)) (.ask ((kI m i).toNat + 0 < m) (bO (andI (andI (andI a b) (me (gI g i))) (me (gI g (kI m i))) != 0)))))))))))))))))) := by kernel_rfl
theorem law_sat (len0 : Nat) (g0 : Nat → List Value) (x1 x2 x3 : Int) (r0 : ∀ j, j < len0 → rngs ekK (g0 j)) (r1 : (Lit.int .i64 x1).wf = true) (r2 : (Lit.int .u64 x2).wf = true) (r3 : (Lit.int .u64 x3).wf = true) : Bnd [.rows ekK len0 g0, .val (.int .i64 x1), .val (.int .u64 x2), .val (.int .u64 x3)] → (evV K18 noL Try.f4 (canonA 0 [.rows ekK len0 g0, .val (.int .i64 x1), .val (.int .u64 x2), .val (.int .u64 x3)]) (canonH [.rows ekK len0 g0, .val (.int .i64 x1), .val (.int .u64 x2), .val (.int .u64 x3)])).sat fun _ S => S.slots = [some (.bool true)] := fun hb => by
  have hU : RU len0 g0 := fun j hj => U_wf (r0 j hj).2.1
  have ha := U_wf r2
  have hbb := U_wf r3
  have hbm : len0 ≤ 140737488355328 := hb.1
  show (evV K18 noL Try.f4 [.slice (some ⟨0, 0, some 0⟩) len0 len0, .int .i64 x1, .int .u64 x2, .int .u64 x3] [.recs ekK len0 g0]).sat _
  rw [run_share]
  have eta : (chE len0 fun j => g0 j) = chE len0 g0 := rfl
  rw [eta]
  refine sat_ask ⟨Nat.le_refl _, hbm⟩ (sat_ask hU (sat_tst (fun _ => rfl) fun h0 => sat_tst (fun _ => rfl) fun h1 => sat_tst (fun _ => rfl) fun h2 => ?_))
  obtain ⟨hm, hf⟩ := chE_le h0
  have h1 := of_decide_eq_false h1
  have h2 := of_decide_eq_false h2
  obtain ⟨i, rfl⟩ : ∃ i : Nat, x1 = i := ⟨x1.toNat, by omega⟩
  have hi : i < len0 := by omega
  have ek : kI len0 i = ((if i + 1 < len0 then i + 1 else i : Nat) : Int) := by
    unfold kI
    rw [pred_at (by omega) (by omega), wrap_inc (by omega)]
    split <;> split <;> omega
  rw [ek]
  have hk : (if i + 1 < len0 then i + 1 else i) < len0 := by split <;> omega
  have hd : pc ((me (g0 (if i + 1 < len0 then i + 1 else i))).toNat ^^^ (me (g0 i)).toNat) ≤ 1 := by
    split
    · have := err_one (firstE_all hf (i + 1) (by omega)).1 (by omega)
      rw [show i + 1 - 1 = i from rfl] at this
      omega
    · rw [pc_xor_self]; decide
  revert hk hd
  generalize (if i + 1 < len0 then i + 1 else i) = k
  intro hk hd
  have ux := hU i hi
  have uy := hU k hk
  refine sat_ask ⟨by omega, by omega⟩ (sat_ask (by show i + 0 < len0; omega) (sat_ask ⟨ux, ha⟩ (sat_tst (fun _ => rfl) fun e1 => ?_)))
  refine sat_ask ⟨by omega, by omega⟩ (sat_ask (by show k + 0 < len0; omega) (sat_ask ⟨uy, hbb⟩ (sat_tst (fun _ => rfl) fun e2 => ?_)))
  refine sat_ask ⟨by omega, by omega⟩ (sat_ask (by show i + 0 < len0; omega) (sat_ask ⟨by omega, by omega⟩ (sat_ask (by show k + 0 < len0; omega) (ret_b ?_))))
  have e1 : (!mjB (me (g0 i)) x2) = false := e1
  have e1 : mjB (me (g0 i)) x2 = true := by simpa using e1
  have e2 : (!mjB (me (g0 k)) x3) = false := e2
  have e2 : mjB (me (g0 k)) x3 = true := by simpa using e2
  have e1 := of_decide_eq_true e1
  have e2 := of_decide_eq_true e2
  show (andI (andI (andI x2 x3) (me (g0 i))) (me (g0 k)) != 0) = true
  cases hz : (andI (andI (andI x2 x3) (me (g0 i))) (me (g0 k)) != 0) with
  | true => rfl
  | false =>
    exfalso
    have hz : andI (andI (andI x2 x3) (me (g0 i))) (me (g0 k)) = 0 := by simpa using hz
    have q := andI_U (x := andI (andI x2 x3) (me (g0 i))) (wrap_U _) uy
    rw [hz, andI_U (x := andI x2 x3) (wrap_U _) ux, andI_U ha hbb] at q
    exact share e1 e2 hd q.symm

theorem K18_P : K18.P = Try.prog := rfl
theorem walk (W : World) {a0 : Option Addr} (len0 cap0 : Nat) (g0 : Nat → List Value) (w0 : ArgOk W (.rows ekK len0 g0) (.slice a0 len0 cap0)) (rg0 : ∀ j, j < len0 → rngs ekK (g0 j)) (x1 : Int) (rg1 : (Lit.int .i64 x1).wf = true) (x2 : Int) (rg2 : (Lit.int .u64 x2).wf = true) (x3 : Int) (rg3 : (Lit.int .u64 x3).wf = true) : Calls Try.prog 4 #[.slice a0 len0 cap0, .int .i64 x1, .int .u64 x2, .int .u64 x3] W fun e w' => e = .returned (.bool true) ∧ Below W.heap.size W w' := by
  rewrite [← K18_P]
  refine law_ok (W := W) K18_ok (L := noL) (f := 4) (fn := Try.f4) Try.func4 (no_loops rfl) (ks := [.one (.rows ekK), .one .val, .one .val, .one .val]) (cas := [.rows ekK len0 g0, .val (.int .i64 x1), .val (.int .u64 x2), .val (.int .u64 x3)]) (us := [.slice a0 len0 cap0, .int .i64 x1, .int .u64 x2, .int .u64 x3]) (ful := [.slice a0 len0 cap0, .int .i64 x1, .int .u64 x2, .int .u64 x3]) (r := .bool true) rfl rfl rfl ?_ (@law_sat len0 g0 x1 x2 x3 rg0 rg1 rg2 rg3)
  intro i c u hc hu
  match i, hc, hu with
  | 0, hc, hu => cases hc; cases hu; exact w0
  | 1, hc, hu => cases hc; cases hu; exact ⟨rfl, rfl⟩
  | 2, hc, hu => cases hc; cases hu; exact ⟨rfl, rfl⟩
  | 3, hc, hu => cases hc; cases hu; exact ⟨rfl, rfl⟩
  | i + 4, hc, hu => simp at hc

set_option maxRecDepth 100000 in
theorem lifted (os : Os) (started : os.Started) (H : Type) (enc : TypeId × Value → H) :
    ReturnsInHanded {} Try.checked os 4 .any (Rows.epochSharesSpec.pre6 enc Try.prog Try.f4 Rows.epochSharesRow.domain false) (Rows.epochSharesSpec.post enc Try.prog Try.f4 false true false false) := by
  refine returnsInHanded_of_change_sized (C := Try.checked) own started (by kernel_rfl) Try.func4
    (ChangeSpec.witness6 (enc := enc) (C := Try.checked) false ⟨#[], #[.slice none 0 0, .int .i64 0, .int .u64 0, .int .u64 0], []⟩ 8 (by kernel_rfl) (by kernel_rfl) (by kernel_rfl) (by kernel_rfl)) ?_
  intro W base args ds gs before hval0 hW hcnd hsz0 _
  have hsz : (DataW.weightsEach Try.prog (Try.f4.params.toList ++ Rows.epochSharesSpec.plain.varTypes Try.prog) (ds ++ gs)).all (· ≤ reachBytes) = true := hsz0
  clear hsz0
  have hval : ∀ (j : Nat) t v, Try.f4.params[j]? = some t → args[j]? = some v → Value.okWide Try.prog W .any base t v := hval0
  have hW' := hW
  obtain ⟨p, q, hA0, hV, rfl, hfz, hnd⟩ := hW
  have hA : DataW.TrodAll enc Try.prog W 0 (fun _ => true) true Try.f4.params.toList args.toList ds p := hA0
  rw [Try.params4] at hA hval hsz
  obtain ⟨v0, vs0, d0, ds0, p0, q0, hargs, rfl, rfl, h0, r0⟩ := trodAll_cons hA
  obtain ⟨v1, vs1, d1, ds1, p1, q1, rfl, rfl, rfl, h1, r1⟩ := trodAll_cons r0
  obtain ⟨v2, vs2, d2, ds2, p2, q2, rfl, rfl, rfl, h2, r2⟩ := trodAll_cons r1
  obtain ⟨v3, vs3, d3, ds3, p3, q3, rfl, rfl, rfl, h3, r3⟩ := trodAll_cons r2
  obtain ⟨rfl, rfl, rfl⟩ := trodAll_nil r3
  obtain rfl : args = #[v0, v1, v2, v3] := by cases args; simp_all
  obtain ⟨rfl, rfl⟩ := trodVars_none hV
  obtain ⟨a0, len0, cap0, rfl⟩ := okWide_slice Try.underlying22 (hval 0 22 v0 rfl rfl)
  have k0 := h0
  have lt0 : ∀ x ∈ p0, x.block < W.heap.size := by obtain ⟨m, hm⟩ := k0; exact DataW.trod_lt m _ _ _ hm
  obtain ⟨g0, w0, rg0⟩ : ∃ g, ArgOk W (.rows ekK len0 g) (.slice a0 len0 cap0) ∧ ∀ j, j < len0 → rngs ekK (g j) := by
    obtain ⟨fuel, hf⟩ := h0
    exact arg_rowsR (P := Try.prog) (sh := ekK) (n := 9) (e := 25) (j := 0) Try.underlying22 (by kernel_rfl) (by kernel_rfl) (by decide) (of_decide_eq_true (by kernel_rfl)) hf hsz rfl rfl
  obtain ⟨x1, rfl, rfl, rfl, w1⟩ := open_int Try.underlying3 (hval 1 3 v1 rfl rfl) h1
  obtain ⟨x2, rfl, rfl, rfl, w2⟩ := open_int Try.underlying23 (hval 2 23 v2 rfl rfl) h2
  obtain ⟨x3, rfl, rfl, rfl, w3⟩ := open_int Try.underlying23 (hval 3 23 v3 rfl rfl) h3
  clear hA0 hval0
  refine (walk W len0 cap0 g0 w0 rg0 x1 w1 x2 w2 x3 w3).mono fun e W' ⟨he, bel⟩ => ?_
  subst he
  exact ⟨_, rfl, _, _, _, [], _, [], hW', trodAll_mk1 (shut_bool Try.underlying4 _), (trodAll_cons_mk (Below.trod laidOut (by kernel_rfl) (of_decide_eq_true (by kernel_rfl)) k0 bel lt0) (trodAll_cons_mk (shut_int Try.underlying3 w1) (trodAll_cons_mk (shut_int Try.underlying23 w2) (trodAll_cons_mk (shut_int Try.underlying23 w3) trodAll_mk0)))), rfl, bel.frame _, fun h => by cases h⟩

theorem over : Rows.epochSharesRow.holds Try.pinned (OpenSpec.ofChange Rows.epochSharesSpec) :=
  OpenClaim.holds_of_wide 4 Try.f4 rfl rfl rfl rfl rfl rfl rfl ⟨rfl, rfl, rfl, rfl, rfl⟩ rfl rfl rfl rfl rfl (by kernel_rfl) Try.func4 (by kernel_rfl)
    (of_decide_eq_true (by kernel_rfl)) (by unfold Func.isWrapper; first | (rw [if_pos (by decide +kernel)]; kernel_rfl) | (rw [if_neg (by decide +kernel)]; exact ⟨rfl, rfl⟩))
    (fun os started H enc _ => lifted os started H enc)

/-- ████ THE STATEMENT ████ -/
theorem proved : Rows.EpochSharesSaid := over
#print axioms proved
end Go.Proofs.Ytnpdpbiikejflaa.epochShares
