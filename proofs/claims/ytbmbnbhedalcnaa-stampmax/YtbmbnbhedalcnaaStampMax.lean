/- THE MAX IS BELOW NONE, AND ONE OF THEM; of two lists it is the greater of both ones'. -/
import Derived.Test.YtbmbnbhedalcnaaRows
import Derived.Test.YtbmbnbhedalcnaaMp
import Derived.Test.YtbmbnbhedalcnaaZw
import Derived.WalkKit
import Derived.ProofKit
import Derived.OpenShut
import Derived.ShutString
import Derived.ChangeOld
import Derived.Below
import Derived.SizedLaws
namespace Go.Proofs.Ytbmbnbhedalcnaa.stampMax
open Go.ChangeShapes Go.WideShapes Go.ChangeAt Go.RowKit
open Go.ChangeMaps (open_string shut_string)

theorem own : ownKnob Try.prog.godebug = none := by kernel_rfl
theorem laidOut : laidOutB Try.prog = true := by kernel_rfl
theorem arg_bytes {P : Program} {H : Type} {enc : TypeId × Value → H} {W : World} {t e : TypeId} {fuel j : Nat} {a : Option Addr} {l c : Nat} {d : DataW H} {p : List MemPlace} {ts : List TypeId} {ds : List (DataW H)} (hu : P.underlying t = some (.slice e))
    (hf : DataW.trod enc P W 0 (fun _ => true) true fuel t (Value.slice a l c).cells.toList = some (d, p)) (hsz : (DataW.weightsEach P ts ds).all (· ≤ reachBytes) = true) (ht : ts[j]? = some t) (hd : ds[j]? = some d) : l * P.bytesOf e ≤ 140737488351232 := by
  rcases Deep.open_slice hu hf with ⟨hcs, _⟩ | ⟨x, len, cap, m, n', D, Pl, hcs, _, hl, hm, hmm, hx, hel⟩
  · simp [Value.cells] at hcs
    obtain ⟨rfl, rfl, rfl⟩ := hcs
    omega
  · simp [Value.cells] at hcs
    obtain ⟨rfl, rfl, rfl⟩ := hcs
    obtain ⟨rfl, rfl⟩ := Prod.mk.inj hx
    have hb := sized_slice hsz (j := j) (t := t) (e := e) ht hd hu
    simp only [List.length_map, List.length_range, reachBytes] at hb
    have h1 : l * P.bytesOf e ≤ (l + (m - l)) * P.bytesOf e := Nat.mul_le_mul_right _ (by omega)
    omega

abbrev bO (b : Bool) : Out := .done .ret ⟨[some (.bool b)], []⟩
abbrev eqS (a b : St) : Bool := bif true then decide (a.1 = b.1 ∧ a.2 = b.2) else !decide (a.1 = b.1 ∧ a.2 = b.2)
theorem eqS_rfl (a : St) : eqS a a = true := decide_eq_true ⟨rfl, rfl⟩
abbrev tailO (m m2 : Nat) (g h J : Nat → List Value) : Out := .ask (m2 ≤ m2 ∧ m2 ≤ 140737488355328) (.ask (0 ≤ 0) (.ask (m ≤ m ∧ m ≤ 140737488355328) (.ask ((0 + m) * 16 ≤ 140737488355328) (.ask (0 + m ≤ 0 + m) (.ask (m2 ≤ m2 ∧ m2 ≤ 140737488355328) (.ask ((0 + m + m2) * 16 ≤ 140737488355328) (.ask (0 + m + m2 + 0 ≤ 0 + m + m2 ∧ 0 + m + m2 ≤ 140737488355328)
  (tst (maxE m2 h != 0) (bO true) (tst (maxE (0 + m + m2) J != 0) (bO true) (tst (slt (maxV m g) (maxV m2 h)) (bO (eqS (maxV (0 + m + m2) J) (maxV m2 h))) (bO (eqS (maxV (0 + m + m2) J) (maxV m g)))))))))))))
abbrev restO (m m2 : Nat) (g h J : Nat → List Value) (i : Int) (b : Bool) : Out := .ask (m = m ∧ m = m ∧ m2 = m2 ∧ m2 = m2 ∧ (0 : Int) = 0 ∧ m ≤ 140737488355328) (tst (!fndN g (maxV m g).1 (maxV m g).2 b m) (bO false)
  (tst (decide (i ≥ 0)) (tst (decide (i < (m : Int))) (.ask (0 ≤ i ∧ i < (m : Int)) (.ask (i.toNat + 0 < m) (tst (slt (maxV m g) (stp (g (i.toNat + 0)))) (bO false) (tailO m m2 g h J)))) (tailO m m2 g h J)) (tailO m m2 g h J)))
theorem run_law (m m2 : Nat) (g h : Nat → List Value) (i : Int) : evV K27 lSM Try.f3 [.slice (some ⟨0, 0, some 0⟩) m m, .slice (some ⟨1, 0, some 0⟩) m2 m2, .int .i64 i] [.recs stK m g, .recs stK m2 h] =
    .ask (m ≤ m ∧ m ≤ 140737488355328) (tst (maxE m g != 0) (bO (eqS (maxV m g) (0, 0))) (tst ((m : Int) == 0) (restO m m2 g h (joinG (0 + m) g h) i (eqS (maxV m g) (0, 0))) (restO m m2 g h (joinG (0 + m) g h) i false))) := by kernel_rfl
theorem law_sat (len0 : Nat) (g0 : Nat → List Value) (len1 : Nat) (g1 : Nat → List Value) (x2 : Int) (_r0 : ∀ j, j < len0 → rngs stK (g0 j)) (_r1 : ∀ j, j < len1 → rngs stK (g1 j)) (_r2 : (Lit.int .i64 x2).wf = true) (_b0 : len0 * 16 ≤ 140737488351232) (b1 : len1 * 16 ≤ 140737488351232) : Bnd [.rows stK len0 g0, .rows stK len1 g1, .val (.int .i64 x2)] → (evV K27 lSM Try.f3 (regr [.one (.rows stK), .one (.rows stK), .one .val] (canonA 0 [.rows stK len0 g0, .rows stK len1 g1, .val (.int .i64 x2)])) (canonH [.rows stK len0 g0, .rows stK len1 g1, .val (.int .i64 x2)])).sat fun _ S => S.slots = [some (.bool true)] := fun hb => by
  have hbm : len0 ≤ 140737488355328 := hb.1
  show (evV K27 lSM Try.f3 [.slice (some ⟨0, 0, some 0⟩) len0 len0, .slice (some ⟨1, 0, some 0⟩) len1 len1, .int .i64 x2] [.recs stK len0 g0, .recs stK len1 g1]).sat _
  rw [run_law, Nat.zero_add]
  have fin : ∀ {b : Bool}, b = true → (bO b).sat fun _ S => S.slots = [some (.bool true)] := fun h => by subst h; rfl
  have nope : ∀ {c : Bool} {q r : Out} {Φ : Lf}, c = false → r.sat Φ → (tst c q r).sat Φ := fun h1 h2 => by subst h1; exact h2
  refine sat_ask ⟨Nat.le_refl _, hbm⟩ (sat_tst (fun h0 => fin ?_) fun h0 => ?_)
  · have e : maxV len0 g0 = (0, 0) := by unfold maxV; rw [h0]; rfl
    rw [e]
    exact eqS_rfl _
  · obtain ⟨z1, z2, z3⟩ := maxE_z (by simpa using h0)
    have tail : (tailO len0 len1 g0 g1 (joinG len0 g0 g1)).sat fun _ S => S.slots = [some (.bool true)] := by
      simp only [tailO, Nat.zero_add]
      refine sat_ask ⟨Nat.le_refl _, by omega⟩ (sat_ask (Nat.le_refl _) (sat_ask ⟨Nat.le_refl _, by omega⟩ (sat_ask (by omega) (sat_ask (Nat.le_refl _) (sat_ask ⟨Nat.le_refl _, by omega⟩ (sat_ask (by omega) (sat_ask ⟨by omega, by omega⟩ (sat_tst (fun _ => rfl) fun h1 => sat_tst (fun _ => rfl) fun h2 => ?_))))))))
      obtain ⟨_, y2, y3⟩ := maxE_z (by simpa using h1)
      obtain ⟨_, x2, x3⟩ := maxE_z (by simpa using h2)
      have e := mxW_join z2 y2 x2 (Nat.le_refl _)
      rw [← z3, ← y3, ← x3] at e
      refine sat_tst (fun hs => fin ?_) fun hs => fin ?_
      · rw [e, hs]; exact eqS_rfl _
      · rw [e, hs]; exact eqS_rfl _
    have rest : ∀ b : Bool, (b = true ∨ ∃ j, j < len0 ∧ stp (g0 j) = ((maxV len0 g0).1, (maxV len0 g0).2)) → (restO len0 len1 g0 g1 (joinG len0 g0 g1) x2 b).sat fun _ S => S.slots = [some (.bool true)] := fun b hf => by
      refine sat_ask ⟨rfl, rfl, rfl, rfl, rfl, hbm⟩ (nope (by rw [fnd_true hf]; rfl) (sat_tst (fun h1 => sat_tst (fun h2 => ?_) fun _ => tail) fun _ => tail))
      have h1 := of_decide_eq_true h1
      have h2 := of_decide_eq_true h2
      refine sat_ask ⟨h1, h2⟩ (sat_ask (by omega) (nope ?_ tail))
      rw [z3]
      exact mxW_top z2 (Nat.le_refl _) _ (by omega)
    rcases mxW_or z2 (Nat.le_refl _) with ⟨e1, e2⟩ | ⟨j, hj, e⟩
    · rw [← z3] at e2
      exact sat_tst (fun _ => rest _ (.inl (by rw [e2]; exact eqS_rfl _))) fun hn => by subst e1; cases hn
    · rw [← z3] at e
      have hf : ∃ j, j < len0 ∧ stp (g0 j) = ((maxV len0 g0).1, (maxV len0 g0).2) := ⟨j, hj, e.symm⟩
      exact sat_tst (fun _ => rest _ (.inr hf)) fun _ => rest _ (.inr hf)

theorem K27_P : K27.P = Try.prog := rfl
theorem walk (W : World) {a0 : Option Addr} (len0 cap0 : Nat) (g0 : Nat → List Value) (w0 : ArgOk W (.rows stK len0 g0) (.slice a0 len0 cap0)) (rg0 : ∀ j, j < len0 → rngs stK (g0 j)) {a1 : Option Addr} (len1 cap1 : Nat) (g1 : Nat → List Value) (w1 : ArgOk W (.rows stK len1 g1) (.slice a1 len1 cap1)) (rg1 : ∀ j, j < len1 → rngs stK (g1 j)) (x2 : Int) (rg2 : (Lit.int .i64 x2).wf = true) (b0 : len0 * 16 ≤ 140737488351232) (b1 : len1 * 16 ≤ 140737488351232) : Calls Try.prog 3 #[.slice a0 len0 cap0, .slice a1 len1 cap1, .int .i64 x2] W fun e w' => e = .returned (.bool true) ∧ Below W.heap.size W w' := by
  rewrite [← K27_P]
  refine law_ok (W := W) K27_ok (L := lSM) (f := 3) (fn := Try.f3) Try.func3 (one_loop (by kernel_rfl) lSM_ok) (ks := [.one (.rows stK), .one (.rows stK), .one .val]) (cas := [.rows stK len0 g0, .rows stK len1 g1, .val (.int .i64 x2)]) (us := [.slice a0 len0 cap0, .slice a1 len1 cap1, .int .i64 x2]) (ful := [.slice a0 len0 cap0, .slice a1 len1 cap1, .int .i64 x2]) (r := .bool true) rfl rfl rfl ?_ (@law_sat len0 g0 len1 g1 x2 rg0 rg1 rg2 b0 b1)
  intro i c u hc hu
  match i, hc, hu with
  | 0, hc, hu => cases hc; cases hu; exact w0
  | 1, hc, hu => cases hc; cases hu; exact w1
  | 2, hc, hu => cases hc; cases hu; exact ⟨rfl, rfl⟩
  | i + 3, hc, hu => simp at hc

set_option maxRecDepth 100000 in
theorem lifted (os : Os) (started : os.Started) (H : Type) (enc : TypeId × Value → H) :
    ReturnsInHanded {} Try.checked os 3 .any (Rows.stampMaxSpec.pre6 enc Try.prog Try.f3 Rows.stampMaxRow.domain false) (Rows.stampMaxSpec.post enc Try.prog Try.f3 false true false false) := by
  refine returnsInHanded_of_change_sized (C := Try.checked) own started (by kernel_rfl) Try.func3
    (ChangeSpec.witness6 (enc := enc) (C := Try.checked) false ⟨#[], #[.slice none 0 0, .slice none 0 0, .int .i64 0], []⟩ 8 (by kernel_rfl) (by kernel_rfl) (by kernel_rfl) (by kernel_rfl)) ?_
  intro W base args ds gs before hval0 hW hcnd hsz0 _
  have hsz : (DataW.weightsEach Try.prog (Try.f3.params.toList ++ Rows.stampMaxSpec.plain.varTypes Try.prog) (ds ++ gs)).all (· ≤ reachBytes) = true := hsz0
  clear hsz0
  have hval : ∀ (j : Nat) t v, Try.f3.params[j]? = some t → args[j]? = some v → Value.okWide Try.prog W .any base t v := hval0
  have hW' := hW
  obtain ⟨p, q, hA0, hV, rfl, hfz, hnd⟩ := hW
  have hA : DataW.TrodAll enc Try.prog W 0 (fun _ => true) true Try.f3.params.toList args.toList ds p := hA0
  rw [Try.params3] at hA hval hsz
  obtain ⟨v0, vs0, d0, ds0, p0, q0, hargs, rfl, rfl, h0, r0⟩ := trodAll_cons hA
  obtain ⟨v1, vs1, d1, ds1, p1, q1, rfl, rfl, rfl, h1, r1⟩ := trodAll_cons r0
  obtain ⟨v2, vs2, d2, ds2, p2, q2, rfl, rfl, rfl, h2, r2⟩ := trodAll_cons r1
  obtain ⟨rfl, rfl, rfl⟩ := trodAll_nil r2
  obtain rfl : args = #[v0, v1, v2] := by cases args; simp_all
  obtain ⟨rfl, rfl⟩ := trodVars_none hV
  obtain ⟨a0, len0, cap0, rfl⟩ := okWide_slice Try.underlying22 (hval 0 22 v0 rfl rfl)
  have k0 := h0
  have lt0 : ∀ x ∈ p0, x.block < W.heap.size := by obtain ⟨m, hm⟩ := k0; exact DataW.trod_lt m _ _ _ hm
  have b0 : len0 * 16 ≤ 140737488351232 := by
    obtain ⟨fuel, hf⟩ := h0
    have hb := arg_bytes (P := Try.prog) (e := 24) (j := 0) Try.underlying22 hf hsz rfl rfl
    rw [show Try.prog.bytesOf 24 = 16 from by kernel_rfl] at hb
    exact hb
  obtain ⟨g0, w0, rg0⟩ : ∃ g, ArgOk W (.rows stK len0 g) (.slice a0 len0 cap0) ∧ ∀ j, j < len0 → rngs stK (g j) := by
    obtain ⟨fuel, hf⟩ := h0
    exact arg_rowsR (P := Try.prog) (sh := stK) (n := 9) (e := 24) (j := 0) Try.underlying22 (by kernel_rfl) (by kernel_rfl) (by decide) (of_decide_eq_true (by kernel_rfl)) hf hsz rfl rfl
  obtain ⟨a1, len1, cap1, rfl⟩ := okWide_slice Try.underlying22 (hval 1 22 v1 rfl rfl)
  have k1 := h1
  have lt1 : ∀ x ∈ p1, x.block < W.heap.size := by obtain ⟨m, hm⟩ := k1; exact DataW.trod_lt m _ _ _ hm
  have b1 : len1 * 16 ≤ 140737488351232 := by
    obtain ⟨fuel, hf⟩ := h1
    have hb := arg_bytes (P := Try.prog) (e := 24) (j := 1) Try.underlying22 hf hsz rfl rfl
    rw [show Try.prog.bytesOf 24 = 16 from by kernel_rfl] at hb
    exact hb
  obtain ⟨g1, w1, rg1⟩ : ∃ g, ArgOk W (.rows stK len1 g) (.slice a1 len1 cap1) ∧ ∀ j, j < len1 → rngs stK (g j) := by
    obtain ⟨fuel, hf⟩ := h1
    exact arg_rowsR (P := Try.prog) (sh := stK) (n := 9) (e := 24) (j := 1) Try.underlying22 (by kernel_rfl) (by kernel_rfl) (by decide) (of_decide_eq_true (by kernel_rfl)) hf hsz rfl rfl
  obtain ⟨x2, rfl, rfl, rfl, w2⟩ := open_int Try.underlying3 (hval 2 3 v2 rfl rfl) h2
  clear hA0 hval0
  refine (walk W len0 cap0 g0 w0 rg0 len1 cap1 g1 w1 rg1 x2 w2 b0 b1).mono fun e W' ⟨he, bel⟩ => ?_
  subst he
  exact ⟨_, rfl, _, _, _, [], _, [], hW', trodAll_mk1 (shut_bool Try.underlying4 _), (trodAll_cons_mk (Below.trod laidOut (by kernel_rfl) (of_decide_eq_true (by kernel_rfl)) k0 bel lt0) (trodAll_cons_mk (Below.trod laidOut (by kernel_rfl) (of_decide_eq_true (by kernel_rfl)) k1 bel lt1) (trodAll_cons_mk (shut_int Try.underlying3 w2) trodAll_mk0))), rfl, bel.frame _, fun h => by cases h⟩

theorem over : Rows.stampMaxRow.holds Try.pinned (OpenSpec.ofChange Rows.stampMaxSpec) :=
  OpenClaim.holds_of_wide 3 Try.f3 rfl rfl rfl rfl rfl rfl rfl ⟨rfl, rfl, rfl, rfl, rfl⟩ rfl rfl rfl rfl rfl (by kernel_rfl) Try.func3 (by kernel_rfl)
    (of_decide_eq_true (by kernel_rfl)) (by unfold Func.isWrapper; first | (rw [if_pos (by decide +kernel)]; kernel_rfl) | (rw [if_neg (by decide +kernel)]; exact ⟨rfl, rfl⟩))
    (fun os started H enc _ => lifted os started H enc)

/-- ████ THE STATEMENT ████ -/
theorem proved : Rows.StampMaxSaid := over
#print axioms proved
end Go.Proofs.Ytbmbnbhedalcnaa.stampMax
