/- What is read of a cluster was written by the operation that its stamp tells, and that began, or is nothing; so is what each node has. -/
import Derived.Test.YtpkckgdpdnkbeaaRows
import Derived.Test.YtpkckgdpdnkbeaaDl
import Derived.Test.YtpkckgdpdnkbeaaZw
import Derived.WalkKit
import Derived.ProofKit
import Derived.OpenShut
import Derived.ShutString
import Derived.ChangeOld
import Derived.Below
import Derived.SizedLaws
namespace Go.Proofs.Ytpkckgdpdnkbeaa.clusterValues
open Go.ChangeShapes Go.WideShapes Go.ChangeAt Go.RowKit
open Go.ChangeMaps (open_string shut_string)

theorem own : ownKnob Try.prog.godebug = none := by kernel_rfl
theorem laidOut : laidOutB Try.prog = true := by kernel_rfl

abbrev bO (b : Bool) : Out := .done .ret ⟨[some (.bool b)], []⟩
abbrev oW (p : List Value) : Nat := (pW p).toNat
abbrev eqS (p : List Value) : Bool := bif true then decide (pT p = 0 ∧ pW p = 0) else !decide (pT p = 0 ∧ pW p = 0)
abbrev eqC (q p : List Value) : Bool := bif true then decide (q4 q = pT p ∧ q5 q = pW p ∧ q6 q = pS p) else !decide (q4 q = pT p ∧ q5 q = pW p ∧ q6 q = pS p)
abbrev inO (C : CL) (p : List Value) (o : Out) : Out := .ask (0 ≤ pW p ∧ pW p < (C.b : Int)) (.ask (oW p + 0 < C.b) o)
def valP (C : CL) (p : List Value) : Out :=
  tst (eqS p) (bO (ByteArray.toList (pS p) == [])) (tst (decide (pW p < (C.b : Int))) (inO C p (tst (mOp (C.ak (oW p)) == 2) (inO C p (tst (ByteArray.toList (q3 (C.ak (oW p))) == ByteArray.toList (pS p)) (inO C p (tst (decide (mNo (C.ak (oW p)) > 1)) (inO C p (bO (eqC (C.ak (oW p)) p))) (bO false))) (bO false))) (bO false))) (bO false))
def valO (C : CL) (i : Int) (n : Nat) (G : Nat → List Value) : Out :=
  tst (decide (i < 0)) (bO true) (tst (decide (i ≥ (n : Int))) (bO true) (.ask (0 ≤ i ∧ i < (n : Int)) (.ask (i.toNat + 0 < n) (valP C (G i.toNat)))))
abbrev allG (C : CL) : Nat → List Value := joinG 0 (fun _ => []) C.nd
set_option maxRecDepth 100000 in
theorem run_vals (m l : Nat) (w sg : Nat → List Value) (need i : Int) : evV K40 lVa Try.f6 [.agg ⟨[.slice (some ⟨0, 0, some 0⟩) m m, .int .i64 need]⟩, .slice (some ⟨1, 0, some 0⟩) l l, .int .i64 i] [.recs wtK m w, .recs spK l sg] =
    .ask (m + 0 ≤ m ∧ m ≤ 140737488355328) (.ask (l + 0 ≤ l ∧ l ≤ 140737488355328) (tst (!ranB m w need l) (bO true) (.ask (0 ≤ 0) (.ask ((ranC m w need l sg).a + 0 ≤ (ranC m w need l sg).a ∧ (ranC m w need l sg).a ≤ 140737488355328) (.ask ((0 + (ranC m w need l sg).a) * 32 ≤ 140737488355328)
      (.ask (vaV i 11 (0 + (ranC m w need l sg).a) 0 = vaV i 11 (0 + (ranC m w need l sg).a) 0 ∧ vaA m l w sg need (ranC m w need l sg) (0 + (ranC m w need l sg).a) (allG (ranC m w need l sg)) = vaA m l w sg need (ranC m w need l sg) (0 + (ranC m w need l sg).a) (allG (ranC m w need l sg)) ∧ 0 + (ranC m w need l sg).a ≤ 1000 ∧ (ranC m w need l sg).b ≤ 1000)
        (tst (Nat.beq (ranC m w need l sg).b 0) (valO (ranC m w need l sg) i (0 + (ranC m w need l sg).a) (allG (ranC m w need l sg)))
          (valO (ranC m w need l sg) i (0 + (ranC m w need l sg).a + (ranC m w need l sg).b) (gA (ranC m w need l sg) (0 + (ranC m w need l sg).a) (allG (ranC m w need l sg)) (ranC m w need l sg).b))))))))) := by kernel_rfl
theorem valP_ok {C : CL} (rt : Rt C) {p : List Value} (v : Val C (nC p)) : (valP C p).sat fun _ S => S.slots = [some (.bool true)] := by
  rcases v with ⟨v1, v2⟩ | ⟨o, ho, g1, g2, g3, g4, g5, g6, g7⟩
  · have e1 : pT p = 0 := congrArg Prod.fst v1
    have e2 : pW p = 0 := congrArg Prod.snd v1
    have e3 : pS p = ⟨#[]⟩ := v2
    have z : eqS p = true := decide_eq_true ⟨e1, e2⟩
    refine sat_tst (fun _ => ?_) fun h => by rw [z] at h; cases h
    rw [e3]
    have e4 : (ByteArray.toList ⟨#[]⟩ == ([] : List UInt8)) = true := by kernel_rfl
    rw [e4]
    rfl
  · have g1 : pW p = (o : Int) := g1
    have g2 : 1 ≤ pT p := g2
    have g5a : q4 (C.ak o) = pT p := congrArg Prod.fst g5
    have g5b : q5 (C.ak o) = pW p := congrArg Prod.snd g5
    have g6 : q6 (C.ak o) = pS p := g6
    have g7 : q3 (C.ak o) = pS p := g7
    have eo : oW p = o := by show (pW p).toNat = o; omega
    have z : eqS p = false := decide_eq_false fun h => by have := h.1; omega
    have inn : ∀ {u : Out} {Φ : Lf}, u.sat Φ → (inO C p u).sat Φ := fun h => sat_ask ⟨by omega, by omega⟩ (sat_ask (by rw [eo]; omega) h)
    have yes : ∀ {c : Bool} {q r : Out} {Φ : Lf}, c = true → q.sat Φ → (tst c q r).sat Φ := fun h1 h2 => by subst h1; exact h2
    obtain ⟨-, a2, -⟩ := as_iff.1 (rt.asx o ho)
    have h0 : x_achk C.m C.w C.need (mKd (C.ak o)) (mOp (C.ak o)) (mNo (C.ak o)) (q3 (C.ak o)) (q4 (C.ak o)) (q5 (C.ak o)) (q6 (C.ak o)) (q7 (C.ak o)) = 0 := a2
    have hph := (achk_iff.1 h0).2.2.2.2.1
    have hp1 : mNo (C.ak o) > 1 := by
      have : x_aphase (mNo (C.ak o)) = true := by simpa using hph
      unfold x_aphase at this
      by_cases c : 1 ≤ mNo (C.ak o)
      · omega
      · rw [decide_eq_false c] at this; cases this
    unfold valP
    rw [z, eo]
    refine sat_tst (fun h => by cases h) fun _ => yes (decide_eq_true (by omega)) (inn (yes (by rw [g3]; rfl) (inn (yes (by rw [g7]; exact beq_self_eq_true _) (inn (yes (decide_eq_true hp1) (inn ?_)))))))
    have : eqC (C.ak o) p = true := decide_eq_true ⟨g5a, g5b, g6⟩
    rw [this]
    rfl
theorem law_sat (len0 : Nat) (g0 : Nat → List Value) (x0 : Int) (len1 : Nat) (g1 : Nat → List Value) (x2 : Int) (_r0 : ∀ j, j < len0 → rngs wtK (g0 j)) (_r1 : (Lit.int .i64 x0).wf = true) (_r2 : ∀ j, j < len1 → rngs spK (g1 j)) (_r3 : (Lit.int .i64 x2).wf = true) : Bnd [.rows wtK len0 g0, .val (.int .i64 x0), .rows spK len1 g1, .val (.int .i64 x2)] → (evV K40 lVa Try.f6 (regr [.agg [.rows wtK, .val], .one (.rows spK), .one .val] (canonA 0 [.rows wtK len0 g0, .val (.int .i64 x0), .rows spK len1 g1, .val (.int .i64 x2)])) (canonH [.rows wtK len0 g0, .val (.int .i64 x0), .rows spK len1 g1, .val (.int .i64 x2)])).sat fun _ S => S.slots = [some (.bool true)] := fun hb => by
  have hb0 : len0 ≤ 140737488355328 := hb.1
  have hb1 : len1 ≤ 140737488355328 := hb.2.1
  show (evV K40 lVa Try.f6 [.agg ⟨[.slice (some ⟨0, 0, some 0⟩) len0 len0, .int .i64 x0]⟩, .slice (some ⟨1, 0, some 0⟩) len1 len1, .int .i64 x2] [.recs wtK len0 g0, .recs spK len1 g1]).sat _
  rw [run_vals]
  refine sat_ask ⟨by omega, hb0⟩ (sat_ask ⟨by omega, hb1⟩ (sat_tst (fun _ => rfl) fun hr => ?_))
  have hr : ranB len0 g0 x0 len1 = true := by simpa using hr
  obtain ⟨rt, v⟩ := vals_all hr g1
  generalize ranC len0 g0 x0 len1 g1 = C at rt v ⊢
  have h12 := rt.m12
  have ham := rt.am
  have hcb := rt.b31
  have nodes : ∀ j, j < 0 + C.a → Val C (nC (allG C j)) := fun j hj => by
    show Val C (nC (joinG 0 (fun _ => []) C.nd j))
    rw [joinG_at, if_neg (Nat.not_lt_zero j)]
    exact v.nodes _ (by omega)
  have fin : ∀ n G, (∀ j, j < n → Val C (nC (G j))) → (valO C x2 n G).sat fun _ S => S.slots = [some (.bool true)] := fun n G hG =>
    sat_tst (fun _ => rfl) fun h1 => sat_tst (fun _ => rfl) fun h2 => by
      have h1 := of_decide_eq_false h1
      have h2 := of_decide_eq_false h2
      exact sat_ask ⟨by omega, by omega⟩ (sat_ask (by omega) (valP_ok rt (hG _ (by omega))))
  refine sat_ask (Nat.le_refl _) (sat_ask ⟨by omega, by omega⟩ (sat_ask (by omega) (sat_ask ⟨rfl, rfl, by omega, by omega⟩ (sat_tst (fun _ => fin _ _ nodes) fun _ => fin _ _ fun j hj => ?_))))
  rcases gA_at C (0 + C.a) (allG C) C.b j hj with ⟨a, e⟩ | ⟨a, b, e⟩
  · rw [e]; exact nodes j a
  · rw [e]; exact v.asks _ b

theorem K40_P : K40.P = Try.prog := rfl
theorem walk (W : World) {a0 : Option Addr} (len0 cap0 : Nat) (g0 : Nat → List Value) (x0 : Int) (w0 : ArgOk W (.rows wtK len0 g0) (.slice a0 len0 cap0)) (rg0 : ∀ j, j < len0 → rngs wtK (g0 j)) (rx0 : (Lit.int .i64 x0).wf = true) {a1 : Option Addr} (len1 cap1 : Nat) (g1 : Nat → List Value) (w1 : ArgOk W (.rows spK len1 g1) (.slice a1 len1 cap1)) (rg1 : ∀ j, j < len1 → rngs spK (g1 j)) (x2 : Int) (rg2 : (Lit.int .i64 x2).wf = true) : Calls Try.prog 6 #[.agg ⟨[.slice a0 len0 cap0, .int .i64 x0]⟩, .slice a1 len1 cap1, .int .i64 x2] W fun e w' => e = .returned (.bool true) ∧ Below W.heap.size W w' := by
  rewrite [← K40_P]
  refine law_ok (W := W) K40_ok (L := lVa) (f := 6) (fn := Try.f6) Try.func6 (one_loop (by kernel_rfl) lVa_ok) (ks := [.agg [.rows wtK, .val], .one (.rows spK), .one .val]) (cas := [.rows wtK len0 g0, .val (.int .i64 x0), .rows spK len1 g1, .val (.int .i64 x2)]) (us := [.agg ⟨[.slice a0 len0 cap0, .int .i64 x0]⟩, .slice a1 len1 cap1, .int .i64 x2]) (ful := [.slice a0 len0 cap0, .int .i64 x0, .slice a1 len1 cap1, .int .i64 x2]) (r := .bool true) rfl rfl rfl ?_ (@law_sat len0 g0 x0 len1 g1 x2 rg0 rx0 rg1 rg2)
  intro i c u hc hu
  match i, hc, hu with
  | 0, hc, hu => cases hc; cases hu; exact w0
  | 1, hc, hu => cases hc; cases hu; exact ⟨rfl, rfl⟩
  | 2, hc, hu => cases hc; cases hu; exact w1
  | 3, hc, hu => cases hc; cases hu; exact ⟨rfl, rfl⟩
  | i + 4, hc, hu => simp at hc

set_option maxRecDepth 100000 in
theorem lifted (os : Os) (started : os.Started) (H : Type) (enc : TypeId × Value → H) :
    ReturnsInHanded {} Try.checked os 6 .any (Rows.clusterValuesSpec.pre6 enc Try.prog Try.f6 Rows.clusterValuesRow.domain false) (Rows.clusterValuesSpec.post enc Try.prog Try.f6 false true false false) := by
  refine returnsInHanded_of_change_sized (C := Try.checked) own started (by kernel_rfl) Try.func6
    (ChangeSpec.witness6 (enc := enc) (C := Try.checked) false ⟨#[], #[.agg ⟨[.slice none 0 0, .int .i64 0]⟩, .slice none 0 0, .int .i64 0], []⟩ 8 (by kernel_rfl) (by kernel_rfl) (by kernel_rfl) (by kernel_rfl)) ?_
  intro W base args ds gs before hval0 hW hcnd hsz0 _
  have hsz : (DataW.weightsEach Try.prog (Try.f6.params.toList ++ Rows.clusterValuesSpec.plain.varTypes Try.prog) (ds ++ gs)).all (· ≤ reachBytes) = true := hsz0
  clear hsz0
  have hval : ∀ (j : Nat) t v, Try.f6.params[j]? = some t → args[j]? = some v → Value.okWide Try.prog W .any base t v := hval0
  have hW' := hW
  obtain ⟨p, q, hA0, hV, rfl, hfz, hnd⟩ := hW
  have hA : DataW.TrodAll enc Try.prog W 0 (fun _ => true) true Try.f6.params.toList args.toList ds p := hA0
  rw [Try.params6] at hA hval hsz
  obtain ⟨v0, vs0, d0, ds0, p0, q0, hargs, rfl, rfl, h0, r0⟩ := trodAll_cons hA
  obtain ⟨v1, vs1, d1, ds1, p1, q1, rfl, rfl, rfl, h1, r1⟩ := trodAll_cons r0
  obtain ⟨v2, vs2, d2, ds2, p2, q2, rfl, rfl, rfl, h2, r2⟩ := trodAll_cons r1
  obtain ⟨rfl, rfl, rfl⟩ := trodAll_nil r2
  obtain rfl : args = #[v0, v1, v2] := by cases args; simp_all
  obtain ⟨rfl, rfl⟩ := trodVars_none hV
  have k0 := h0
  have lt0 : ∀ x ∈ p0, x.block < W.heap.size := by obtain ⟨m, hm⟩ := k0; exact DataW.trod_lt m _ _ _ hm
  obtain ⟨a0, len0, cap0, x0, g0, rfl, w0, rg0, rx0⟩ := open_rowInt (P := Try.prog) (sh := wtK) (n := 9) (e := 3) (j := 0) Try.underlying24 (by kernel_rfl) rfl rfl (by kernel_rfl) (by kernel_rfl) Try.underlying22 Try.underlying3 (by kernel_rfl) (by kernel_rfl) (by decide) (of_decide_eq_true (by kernel_rfl)) (hval 0 24 v0 rfl rfl) h0 hsz rfl rfl
  obtain ⟨a1, len1, cap1, rfl⟩ := okWide_slice Try.underlying41 (hval 1 41 v1 rfl rfl)
  have k1 := h1
  have lt1 : ∀ x ∈ p1, x.block < W.heap.size := by obtain ⟨m, hm⟩ := k1; exact DataW.trod_lt m _ _ _ hm
  obtain ⟨g1, w1, rg1⟩ : ∃ g, ArgOk W (.rows spK len1 g) (.slice a1 len1 cap1) ∧ ∀ j, j < len1 → rngs spK (g j) := by
    obtain ⟨fuel, hf⟩ := h1
    exact arg_rowsR (P := Try.prog) (sh := spK) (n := 9) (e := 32) (j := 1) Try.underlying41 (by kernel_rfl) (by kernel_rfl) (by decide) (of_decide_eq_true (by kernel_rfl)) hf hsz rfl rfl
  obtain ⟨x2, rfl, rfl, rfl, w2⟩ := open_int Try.underlying3 (hval 2 3 v2 rfl rfl) h2
  clear hA0 hval0
  refine (walk W len0 cap0 g0 x0 w0 rg0 rx0 len1 cap1 g1 w1 rg1 x2 w2).mono fun e W' ⟨he, bel⟩ => ?_
  subst he
  exact ⟨_, rfl, _, _, _, [], _, [], hW', trodAll_mk1 (shut_bool Try.underlying4 _), (trodAll_cons_mk (Below.trod laidOut (by kernel_rfl) (of_decide_eq_true (by kernel_rfl)) k0 bel lt0) (trodAll_cons_mk (Below.trod laidOut (by kernel_rfl) (of_decide_eq_true (by kernel_rfl)) k1 bel lt1) (trodAll_cons_mk (shut_int Try.underlying3 w2) trodAll_mk0))), rfl, bel.frame _, fun h => by cases h⟩

theorem over : Rows.clusterValuesRow.holds Try.pinned (OpenSpec.ofChange Rows.clusterValuesSpec) :=
  OpenClaim.holds_of_wide 6 Try.f6 rfl rfl rfl rfl rfl rfl rfl ⟨rfl, rfl, rfl, rfl, rfl⟩ rfl rfl rfl rfl rfl (by kernel_rfl) Try.func6 (by kernel_rfl)
    (of_decide_eq_true (by kernel_rfl)) (by unfold Func.isWrapper; first | (rw [if_pos (by decide +kernel)]; kernel_rfl) | (rw [if_neg (by decide +kernel)]; exact ⟨rfl, rfl⟩))
    (fun os started H enc _ => lifted os started H enc)

/-- ████ THE STATEMENT ████ -/
theorem proved : Rows.ClusterValuesSaid := over
#print axioms proved
end Go.Proofs.Ytpkckgdpdnkbeaa.clusterValues
