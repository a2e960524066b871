/- All calls of package epoch answer just what the document says, errors too: EpochTells returns true for all lists, nodes, numbers, epochs and sets, and leaves its arguments alone; no condition. -/
import Derived.Test.YtnpdpbiikejflaaRows
import Derived.Test.YtnpdpbiikejflaaEm
import Derived.Test.YtnpdpbiikejflaaZw
import Derived.WalkKit
import Derived.ProofKit
import Derived.OpenShut
import Derived.ShutString
import Derived.ChangeOld
import Derived.Below
import Derived.SizedLaws
namespace Go.Proofs.Ytnpdpbiikejflaa.epochTells
open Go.ChangeShapes Go.WideShapes Go.ChangeAt Go.RowKit
open Go.ChangeMaps (open_string shut_string)

theorem own : ownKnob Try.prog.godebug = none := by kernel_rfl
theorem laidOut : laidOutB Try.prog = true := by kernel_rfl

abbrev qP (m : Nat) (o : Out) : Out := .ask (m ≤ m ∧ m ≤ 140737488355328) o
abbrev tailT (m : Nat) (g : Nat → List Value) (n nn a x s wn wm u cm : Int) : Out :=
  qP m (.ask (aCk [.rows ekK m g]) (tst (chE m g == chE m g) (.ask (tuN m g n + 0 ≤ tuN m g n ∧ tuN m g n ≤ 140737488355328) (.ask (tuN m g n + 0 ≤ tuN m g n ∧ tuN m g n ≤ 140737488355328)
    (tst (bif Nat.beq (tuN m g n) (tuN m g n) then sameE (tuG m g n) (tuG m g n) (tuN m g n) else false) (tst (tuE m g n == tuE m g n) (tst (bif true then decide (atN m g nn = wn ∧ atM m g nn = wm) else !decide (atN m g nn = wn ∧ atM m g nn = wm)) (tst (atE m g nn == u) (tst (coE m g == cm) (tst (chE m g == chE m g)
      (.ask (mA a x s) (.ask (mA a x s) (bO (mjB x s == mjB x s)))) (bO false)) (bO false)) (bO false)) (bO false)) (bO false)) (bO false)))) (bO false)))
abbrev wI (nn : Int) : Int := IntKind.wrap .i64 (nn - 1)
theorem run_tells (m : Nat) (g : Nat → List Value) (n nn a x s : Int) : evV K18 noL Try.f3 [.slice (some ⟨0, 0, some 0⟩) m m, .int .i64 n, .int .i64 nn, .agg ⟨[.int .i64 a, .int .u64 x]⟩, .int .u64 s] [.recs ekK m g] =
    qP m (.ask (aRow1 [.rows ekK m g, .val (.int .i64 n)]) (qP m (.ask (aRow1 [.rows ekK m g, .val (.int .i64 nn)]) (qP m (.ask (aCk [.rows ekK m g]) (qP m (.ask (aRow1 [.rows ekK m g, .val (.int .i64 n)]) (qP m (.ask (aCk [.rows ekK m g])
      (tst (chE m g == 0) (qP m (.ask (aCk [.rows ekK m g]) (tst (decide (nn ≥ 1)) (tst (decide (nn ≤ (m : Int))) (.ask (0 ≤ wI nn ∧ wI nn < (m : Int)) (.ask ((wI nn).toNat + 0 < m) (tailT m g n nn a x s (no (g ((wI nn).toNat + 0))) (me (g ((wI nn).toNat + 0))) (chE m g) (coN m g))))
        (tailT m g n nn a x s 0 0 5 (coN m g))) (tailT m g n nn a x s 0 0 5 (coN m g))))) (tailT m g n nn a x s 0 0 (chE m g) 0))))))))))) := by kernel_rfl
theorem coN_eq {m : Nat} {g : Nat → List Value} (hU : RU m g) (h : (chE m g != 0) = false) : coN m g = andK g m := by
  obtain ⟨hm, hf⟩ := chE_le h
  unfold coN
  cases m with
  | zero => rfl
  | succ k =>
    show bitsum (fun b => allIn g b (k + 1)) 12 = andK g (k + 1)
    apply Nat.eq_of_testBit_eq
    intro i
    rw [bitsum_bit, andK_bit]
    by_cases hi : i < 12
    · rw [decide_eq_true hi, Bool.true_and]
    · rw [decide_eq_false hi, Bool.false_and]
      cases ha : allIn g i (k + 1) with
      | false => rfl
      | true =>
        have h1 := allIn_at ha 0 (by omega)
        have h2 := (err_lt (firstE_all hf 0 (by omega)).1).2.1
        obtain ⟨a, ea, _⟩ := (hU 0 (by omega)).nat
        rw [ea] at h1 h2
        have h1 : a.testBit i = true := h1
        rw [Nat.testBit_lt_two_pow (Nat.lt_of_lt_of_le (show a < 2 ^ 12 by omega) (Nat.pow_le_pow_right (by decide) (by omega)))] at h1
        cases h1
theorem sameE_refl (g : Nat → List Value) (m : Nat) : sameE g g m = true := sameE_of fun _ _ => ⟨rfl, rfl⟩
theorem tail_ok {m : Nat} {g : Nat → List Value} {n nn a x s wn wm u cm : Int} (hm : m ≤ 140737488355328) (hU : RU m g) (hx : U x) (hs : U s) (ht : tuN m g n ≤ 140737488355328) (h1 : atN m g nn = wn) (h2 : atM m g nn = wm) (h3 : atE m g nn = u) (h4 : coE m g = cm) :
    (tailT m g n nn a x s wn wm u cm).sat fun _ S => S.slots = [some (.bool true)] := by
  subst h1
  subst h2
  subst h3
  subst h4
  have t : ∀ {c : Bool} {o : Out} {Φ : Lf}, c = true → o.sat Φ → (tst c o (bO false)).sat Φ := fun h1 h2 => by subst h1; exact h2
  refine sat_ask ⟨Nat.le_refl _, hm⟩ (sat_ask hU (t (by simp) (sat_ask ⟨Nat.le_refl _, ht⟩ (sat_ask ⟨Nat.le_refl _, ht⟩ (t ?_ (t (by simp) (t ?_ (t (by simp) (t (by simp) (t (by simp) (sat_ask ⟨hx, hs⟩ (sat_ask ⟨hx, hs⟩ (ret_b (by simp))))))))))))))
  · rw [Nat.beq_refl, sameE_refl]
    rfl
  · exact decide_eq_true ⟨rfl, rfl⟩
theorem law_sat (len0 : Nat) (g0 : Nat → List Value) (x1 x2 : Int) (cs3 : List Value) (x4 : Int) (r0 : ∀ j, j < len0 → rngs ekK (g0 j)) (_r1 : (Lit.int .i64 x1).wf = true) (_r2 : (Lit.int .i64 x2).wf = true) (r3 : rngs ekK cs3) (r4 : (Lit.int .u64 x4).wf = true) : Bnd [.rows ekK len0 g0, .val (.int .i64 x1), .val (.int .i64 x2), .val (.agg ⟨norm ekK cs3⟩), .val (.int .u64 x4)] → (evV K18 noL Try.f3 (canonA 0 [.rows ekK len0 g0, .val (.int .i64 x1), .val (.int .i64 x2), .val (.agg ⟨norm ekK cs3⟩), .val (.int .u64 x4)]) (canonH [.rows ekK len0 g0, .val (.int .i64 x1), .val (.int .i64 x2), .val (.agg ⟨norm ekK cs3⟩), .val (.int .u64 x4)])).sat fun _ S => S.slots = [some (.bool true)] := fun hb => by
  have hU : RU len0 g0 := fun j hj => U_wf (r0 j hj).2.1
  have hx : U (me cs3) := U_wf r3.2.1
  have hs := U_wf r4
  have hbm : len0 ≤ 140737488355328 := hb.1
  show (evV K18 noL Try.f3 [.slice (some ⟨0, 0, some 0⟩) len0 len0, .int .i64 x1, .int .i64 x2, .agg ⟨[.int .i64 (no cs3), .int .u64 (me cs3)]⟩, .int .u64 x4] [.recs ekK len0 g0]).sat _
  rw [run_tells]
  have ht : tuN len0 g0 x1 ≤ 140737488355328 := by
    unfold tuN
    cases h : (tuE len0 g0 x1 != 0) with
    | true => show 0 ≤ _; omega
    | false =>
      have h : tuE len0 g0 x1 = 0 := by simpa using h
      have := (chE_le (tuE_zero h).1).1
      show len0 + 1 ≤ _
      omega
  have p : len0 ≤ len0 ∧ len0 ≤ 140737488355328 := ⟨Nat.le_refl _, hbm⟩
  refine sat_ask p (sat_ask hU (sat_ask p (sat_ask hU (sat_ask p (sat_ask hU (sat_ask p (sat_ask hU (sat_ask p (sat_ask hU (sat_tst (fun h0 => ?_) fun h0 => ?_))))))))))
  · have h0 : (chE len0 g0 != 0) = false := by simpa using h0
    have hz : chE len0 g0 = 0 := by simpa using h0
    have hc : coE len0 g0 = ((coN len0 g0 : Nat) : Int) := by rw [coN_eq hU h0]; unfold coE; rw [h0]; rfl
    refine sat_ask p (sat_ask hU (sat_tst (fun h1 => sat_tst (fun h2 => ?_) fun h2 => ?_) fun h1 => ?_))
    · have h1 := of_decide_eq_true h1
      have h2 := of_decide_eq_true h2
      have ew : wI x2 = x2 - 1 := by unfold wI; rw [IntKind.wrap_i64]; omega
      have e : atE len0 g0 x2 = 0 := by
        unfold atE
        rw [h0, decide_eq_false (show ¬ x2 < 1 by omega), decide_eq_false (show ¬ x2 > (len0 : Int) by omega)]
        rfl
      rw [ew]
      refine sat_ask ⟨by omega, by omega⟩ (sat_ask (by omega) (tail_ok hbm hU hx hs ht ?_ ?_ (e.trans hz.symm) hc))
      · unfold atN; rw [e]; rfl
      · unfold atM; rw [e]; rfl
    · have e : atE len0 g0 x2 = 5 := by
        unfold atE
        rw [h0]
        have h2 := of_decide_eq_false h2
        rw [decide_eq_true (show x2 > (len0 : Int) by omega)]
        cases decide (x2 < 1) <;> rfl
      exact tail_ok hbm hU hx hs ht (by unfold atN; rw [e]; rfl) (by unfold atM; rw [e]; rfl) e hc
    · have e : atE len0 g0 x2 = 5 := by
        unfold atE
        rw [h0]
        have h1 := of_decide_eq_false h1
        rw [decide_eq_true (show x2 < 1 by omega)]
        rfl
      exact tail_ok hbm hU hx hs ht (by unfold atN; rw [e]; rfl) (by unfold atM; rw [e]; rfl) e hc
  · have h0 : (chE len0 g0 != 0) = true := by simpa using h0
    have e : atE len0 g0 x2 = chE len0 g0 := by unfold atE; rw [h0]; rfl
    exact tail_ok hbm hU hx hs ht (by unfold atN; rw [e, h0]; rfl) (by unfold atM; rw [e, h0]; rfl) e (by unfold coE; rw [h0]; rfl)

theorem K18_P : K18.P = Try.prog := rfl
theorem walk (W : World) {a0 : Option Addr} (len0 cap0 : Nat) (g0 : Nat → List Value) (w0 : ArgOk W (.rows ekK len0 g0) (.slice a0 len0 cap0)) (rg0 : ∀ j, j < len0 → rngs ekK (g0 j)) (x1 : Int) (rg1 : (Lit.int .i64 x1).wf = true) (x2 : Int) (rg2 : (Lit.int .i64 x2).wf = true) (cs3 : List Value) (rg3 : rngs ekK cs3) (x4 : Int) (rg4 : (Lit.int .u64 x4).wf = true) : Calls Try.prog 3 #[.slice a0 len0 cap0, .int .i64 x1, .int .i64 x2, .agg ⟨norm ekK cs3⟩, .int .u64 x4] W fun e w' => e = .returned (.bool true) ∧ Below W.heap.size W w' := by
  rewrite [← K18_P]
  refine law_ok (W := W) K18_ok (L := noL) (f := 3) (fn := Try.f3) Try.func3 (no_loops rfl) (ks := [.one (.rows ekK), .one .val, .one .val, .one .val, .one .val]) (cas := [.rows ekK len0 g0, .val (.int .i64 x1), .val (.int .i64 x2), .val (.agg ⟨norm ekK cs3⟩), .val (.int .u64 x4)]) (us := [.slice a0 len0 cap0, .int .i64 x1, .int .i64 x2, .agg ⟨norm ekK cs3⟩, .int .u64 x4]) (ful := [.slice a0 len0 cap0, .int .i64 x1, .int .i64 x2, .agg ⟨norm ekK cs3⟩, .int .u64 x4]) (r := .bool true) rfl rfl rfl ?_ (@law_sat len0 g0 x1 x2 cs3 x4 rg0 rg1 rg2 rg3 rg4)
  intro i c u hc hu
  match i, hc, hu with
  | 0, hc, hu => cases hc; cases hu; exact w0
  | 1, hc, hu => cases hc; cases hu; exact ⟨rfl, rfl⟩
  | 2, hc, hu => cases hc; cases hu; exact ⟨rfl, rfl⟩
  | 3, hc, hu => cases hc; cases hu; exact ⟨rfl, rfl⟩
  | 4, hc, hu => cases hc; cases hu; exact ⟨rfl, rfl⟩
  | i + 5, hc, hu => simp at hc

set_option maxRecDepth 100000 in
theorem lifted (os : Os) (started : os.Started) (H : Type) (enc : TypeId × Value → H) :
    ReturnsInHanded {} Try.checked os 3 .any (Rows.epochTellsSpec.pre6 enc Try.prog Try.f3 Rows.epochTellsRow.domain false) (Rows.epochTellsSpec.post enc Try.prog Try.f3 false true false false) := by
  refine returnsInHanded_of_change_sized (C := Try.checked) own started (by kernel_rfl) Try.func3
    (ChangeSpec.witness6 (enc := enc) (C := Try.checked) false ⟨#[], #[.slice none 0 0, .int .i64 0, .int .i64 0, .agg ⟨norm ekK []⟩, .int .u64 0], []⟩ 8 (by kernel_rfl) (by kernel_rfl) (by kernel_rfl) (by kernel_rfl)) ?_
  intro W base args ds gs before hval0 hW hcnd hsz0 _
  have hsz : (DataW.weightsEach Try.prog (Try.f3.params.toList ++ Rows.epochTellsSpec.plain.varTypes Try.prog) (ds ++ gs)).all (· ≤ reachBytes) = true := hsz0
  clear hsz0
  have hval : ∀ (j : Nat) t v, Try.f3.params[j]? = some t → args[j]? = some v → Value.okWide Try.prog W .any base t v := hval0
  have hW' := hW
  obtain ⟨p, q, hA0, hV, rfl, hfz, hnd⟩ := hW
  have hA : DataW.TrodAll enc Try.prog W 0 (fun _ => true) true Try.f3.params.toList args.toList ds p := hA0
  rw [Try.params3] at hA hval hsz
  obtain ⟨v0, vs0, d0, ds0, p0, q0, hargs, rfl, rfl, h0, r0⟩ := trodAll_cons hA
  obtain ⟨v1, vs1, d1, ds1, p1, q1, rfl, rfl, rfl, h1, r1⟩ := trodAll_cons r0
  obtain ⟨v2, vs2, d2, ds2, p2, q2, rfl, rfl, rfl, h2, r2⟩ := trodAll_cons r1
  obtain ⟨v3, vs3, d3, ds3, p3, q3, rfl, rfl, rfl, h3, r3⟩ := trodAll_cons r2
  obtain ⟨v4, vs4, d4, ds4, p4, q4, rfl, rfl, rfl, h4, r4⟩ := trodAll_cons r3
  obtain ⟨rfl, rfl, rfl⟩ := trodAll_nil r4
  obtain rfl : args = #[v0, v1, v2, v3, v4] := by cases args; simp_all
  obtain ⟨rfl, rfl⟩ := trodVars_none hV
  obtain ⟨a0, len0, cap0, rfl⟩ := okWide_slice Try.underlying22 (hval 0 22 v0 rfl rfl)
  have k0 := h0
  have lt0 : ∀ x ∈ p0, x.block < W.heap.size := by obtain ⟨m, hm⟩ := k0; exact DataW.trod_lt m _ _ _ hm
  obtain ⟨g0, w0, rg0⟩ : ∃ g, ArgOk W (.rows ekK len0 g) (.slice a0 len0 cap0) ∧ ∀ j, j < len0 → rngs ekK (g j) := by
    obtain ⟨fuel, hf⟩ := h0
    exact arg_rowsR (P := Try.prog) (sh := ekK) (n := 9) (e := 25) (j := 0) Try.underlying22 (by kernel_rfl) (by kernel_rfl) (by decide) (of_decide_eq_true (by kernel_rfl)) hf hsz rfl rfl
  obtain ⟨x1, rfl, rfl, rfl, w1⟩ := open_int Try.underlying3 (hval 1 3 v1 rfl rfl) h1
  obtain ⟨x2, rfl, rfl, rfl, w2⟩ := open_int Try.underlying3 (hval 2 3 v2 rfl rfl) h2
  have k3 := h3
  have lt3 : ∀ x ∈ p3, x.block < W.heap.size := by obtain ⟨m, hm⟩ := k3; exact DataW.trod_lt m _ _ _ hm
  obtain ⟨cs3, rfl, rg3⟩ := open_flatR (P := Try.prog) (sh := ekK) (n := 9) Try.underlying25 (by kernel_rfl) (hval 3 25 v3 rfl rfl) h3
  obtain ⟨x4, rfl, rfl, rfl, w4⟩ := open_int Try.underlying23 (hval 4 23 v4 rfl rfl) h4
  clear hA0 hval0
  refine (walk W len0 cap0 g0 w0 rg0 x1 w1 x2 w2 cs3 rg3 x4 w4).mono fun e W' ⟨he, bel⟩ => ?_
  subst he
  exact ⟨_, rfl, _, _, _, [], _, [], hW', trodAll_mk1 (shut_bool Try.underlying4 _), (trodAll_cons_mk (Below.trod laidOut (by kernel_rfl) (of_decide_eq_true (by kernel_rfl)) k0 bel lt0) (trodAll_cons_mk (shut_int Try.underlying3 w1) (trodAll_cons_mk (shut_int Try.underlying3 w2) (trodAll_cons_mk (Below.trod laidOut (by kernel_rfl) (of_decide_eq_true (by kernel_rfl)) k3 bel lt3) (trodAll_cons_mk (shut_int Try.underlying23 w4) trodAll_mk0))))), rfl, bel.frame _, fun h => by cases h⟩

theorem over : Rows.epochTellsRow.holds Try.pinned (OpenSpec.ofChange Rows.epochTellsSpec) :=
  OpenClaim.holds_of_wide 3 Try.f3 rfl rfl rfl rfl rfl rfl rfl ⟨rfl, rfl, rfl, rfl, rfl⟩ rfl rfl rfl rfl rfl (by kernel_rfl) Try.func3 (by kernel_rfl)
    (of_decide_eq_true (by kernel_rfl)) (by unfold Func.isWrapper; first | (rw [if_pos (by decide +kernel)]; kernel_rfl) | (rw [if_neg (by decide +kernel)]; exact ⟨rfl, rfl⟩))
    (fun os started H enc _ => lifted os started H enc)

/-- ████ THE STATEMENT ████ -/
theorem proved : Rows.EpochTellsSaid := over
#print axioms proved
end Go.Proofs.Ytnpdpbiikejflaa.epochTells
