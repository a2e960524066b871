/- A bid that heard of something kept puts the latest of it, and its own only, if it heard of none; it goes on just with enough nodes: BidGoes returns true for all voters, numbers, bids and votes, and leaves its arguments alone; no condition. -/
import Derived.Test.YtbmbnbhedalcnabRows
import Derived.Test.YtbmbnbhedalcnabXy
import Derived.Test.YtbmbnbhedalcnabZw
import Derived.WalkKit
import Derived.ProofKit
import Derived.OpenShut
import Derived.ShutString
import Derived.ChangeOld
import Derived.Below
import Derived.SizedLaws
namespace Go.Proofs.Ytbmbnbhedalcnab.bidGoes
open Go.ChangeShapes Go.WideShapes Go.ChangeAt Go.RowKit
open Go.ChangeMaps (open_string shut_string)

theorem own : ownKnob Try.prog.godebug = none := by kernel_rfl
theorem laidOut : laidOutB Try.prog = true := by kernel_rfl

abbrev biK : List LK := [.kInt .i64, .kInt .i64, .kStr, .kStr, .kInt .i64, .kInt .i64, .kStr, .kInt .u64]
abbrev bO (b : Bool) : Out := .done .ret ⟨[some (.bool b)], []⟩
abbrev sEq (a b : ByteArray) : Bool := ByteArray.toList a == ByteArray.toList b
abbrev lastB (r : List Value) (a no : Int) (want : ByteArray) : Bool := bif true then decide (intV (hdV (tlV (tlV (tlV r)))) = x0_at a ∧ intV (hdV (tlV (tlV (tlV (tlV r))))) = x1_at no ∧ strV (hdV (tlV (tlV (tlV (tlV (tlV r)))))) = want) else !decide (intV (hdV (tlV (tlV (tlV r)))) = x0_at a ∧ intV (hdV (tlV (tlV (tlV (tlV r))))) = x1_at no ∧ strV (hdV (tlV (tlV (tlV (tlV (tlV r)))))) = want)
abbrev wantO (m : Nat) (a no : Int) (h3 : ByteArray) (n8 : Nat) (g8 : Nat → List Value) (want : ByteArray) : Out :=
  tst (sEq h3 want) (tst ((n8 : Int) == (m : Int)) (tst (decide ((n8 : Int) > 0)) (.ask (0 ≤ (0 : Int) ∧ (0 : Int) < (n8 : Int)) (.ask (0 < n8) (bO (lastB (g8 ((0 : Int).toNat + 0)) a no want)))) (bO false)) (bO false)) (bO false)
abbrev bestO (m : Nat) (a no : Int) (o : ByteArray) (h3 : ByteArray) (n8 : Nat) (g8 : Nat → List Value) (t w : Int) (s : ByteArray) : Out :=
  tst (bif true then decide (t = 0 ∧ w = 0) else !decide (t = 0 ∧ w = 0)) (wantO m a no h3 n8 g8 o) (wantO m a no h3 n8 g8 s)
abbrev goO (m : Nat) (g : Nat → List Value) (need no a p : Int) (o v : ByteArray) (t w : Int) (s : ByteArray) (hd n x y : Int) (z : ByteArray) (h0 h1 : Int) (h2 h3 : ByteArray) (n8 : Nat) (g8 : Nat → List Value) (h9 : Int) : Out :=
  .ask (m ≤ m ∧ m ≤ 140737488355328) (tst (h9 != 0) (bO ((n8 : Int) == 0)) (tst (h1 == p) (tst ((n8 : Int) == 0) (bO (sEq h3 v)) (bO false)) (.ask (0 ≤ n) (.ask (m ≤ m ∧ m ≤ 140737488355328) (tst (x1_enough m g need (heardN hd n) != 0) (bO false) (tst (!x0_enough m g need (heardN hd n)) (bO false)
    (tst (h1 != IntKind.wrap .i64 (p + 1)) (bO false) (tst (!sEq h2 o) (bO false) (tst (h0 != a) (bO false) (tst (p == 2) (tst (sEq h3 v) (bO ((n8 : Int) == 0)) (bO false)) (tst (slt (t, w) (x, y)) (bestO m a no o h3 n8 g8 x y z) (bestO m a no o h3 n8 g8 t w s))))))))))))
theorem run_goes (m : Nat) (g : Nat → List Value) (need no a p : Int) (o v : ByteArray) (t w : Int) (s : ByteArray) (hd k bd n x y : Int) (z : ByteArray) : evV K25 noL Try.f5 [.agg ⟨[.slice (some ⟨0, 0, some 0⟩) m m, .int .i64 need]⟩, .int .i64 no, .agg ⟨[.int .i64 a, .int .i64 p, .string o, .string v, .int .i64 t, .int .i64 w, .string s, .int .u64 hd]⟩, .agg ⟨[.int .i64 k, .int .i64 bd, .int .i64 n, .int .i64 x, .int .i64 y, .string z]⟩] [.recs wtK m g] =
    goO m g need no a p o v t w s hd n x y z (x0_hear m g need no a p o v t w s hd k bd n x y z) (x1_hear m g need no a p o v t w s hd k bd n x y z) (x2_hear m g need no a p o v t w s hd k bd n x y z) (x3_hear m g need no a p o v t w s hd k bd n x y z) (n8_hear m g need no a p o v t w s hd k bd n x y z) (g8_hear m g need no a p o v t w s hd k bd n x y z) (x9_hear m g need no a p o v t w s hd k bd n x y z) := by kernel_rfl
theorem sEq_refl (s : ByteArray) : sEq s s = true := by simp [sEq]
theorem law_sat (len0 : Nat) (g0 : Nat → List Value) (x0 x1 : Int) (cs2 cs3 : List Value) (_r0 : ∀ j, j < len0 → rngs wtK (g0 j)) (_r1 : (Lit.int .i64 x0).wf = true) (_r2 : (Lit.int .i64 x1).wf = true) (_r3 : rngs biK cs2) (_r4 : rngs vtK cs3) : Bnd [.rows wtK len0 g0, .val (.int .i64 x0), .val (.int .i64 x1), .val (.agg ⟨norm biK cs2⟩), .val (.agg ⟨norm vtK cs3⟩)] → (evV K25 noL Try.f5 (regr [.agg [.rows wtK, .val], .one .val, .one .val, .one .val] (canonA 0 [.rows wtK len0 g0, .val (.int .i64 x0), .val (.int .i64 x1), .val (.agg ⟨norm biK cs2⟩), .val (.agg ⟨norm vtK cs3⟩)])) (canonH [.rows wtK len0 g0, .val (.int .i64 x0), .val (.int .i64 x1), .val (.agg ⟨norm biK cs2⟩), .val (.agg ⟨norm vtK cs3⟩)])).sat fun _ S => S.slots = [some (.bool true)] := fun hb => by
  have hbm : len0 ≤ 140737488355328 := hb.1
  have big : ∀ (a p : Int) (o v : ByteArray) (t w : Int) (s : ByteArray) (hd k bd n x y : Int) (z : ByteArray), (evV K25 noL Try.f5 [.agg ⟨[.slice (some ⟨0, 0, some 0⟩) len0 len0, .int .i64 x0]⟩, .int .i64 x1, .agg ⟨[.int .i64 a, .int .i64 p, .string o, .string v, .int .i64 t, .int .i64 w, .string s, .int .u64 hd]⟩, .agg ⟨[.int .i64 k, .int .i64 bd, .int .i64 n, .int .i64 x, .int .i64 y, .string z]⟩] [.recs wtK len0 g0]).sat fun _ S => S.slots = [some (.bool true)] := fun a p o v t w s hd k bd n x y z => by
    rw [run_goes]
    have hc := hear_cases len0 g0 x0 x1 a p o v t w s hd k bd n x y z
    revert hc
    generalize x0_hear len0 g0 x0 x1 a p o v t w s hd k bd n x y z = h0
    generalize x1_hear len0 g0 x0 x1 a p o v t w s hd k bd n x y z = h1
    generalize x2_hear len0 g0 x0 x1 a p o v t w s hd k bd n x y z = h2
    generalize x3_hear len0 g0 x0 x1 a p o v t w s hd k bd n x y z = h3
    generalize n8_hear len0 g0 x0 x1 a p o v t w s hd k bd n x y z = n8
    generalize g8_hear len0 g0 x0 x1 a p o v t w s hd k bd n x y z = g8
    generalize x9_hear len0 g0 x0 x1 a p o v t w s hd k bd n x y z = h9
    intro hc
    have yes : ∀ {c : Bool} {q r : Out} {Φ : Lf}, c = true → q.sat Φ → (tst c q r).sat Φ := fun h1 h2 => by subst h1; exact h2
    have nope : ∀ {c : Bool} {q r : Out} {Φ : Lf}, c = false → r.sat Φ → (tst c q r).sat Φ := fun h1 h2 => by subst h1; exact h2
    have fin : ∀ {b : Bool}, b = true → (bO b).sat fun _ S => S.slots = [some (.bool true)] := fun h => by subst h; rfl
    have z0 : ((0 : Int) != 0) = false := rfl
    rcases hc with ⟨q1, q2⟩ | ⟨q1, q2, q3, q4⟩ | ⟨q1, q2, q3, q4, q5, q6, q7⟩
    · exact sat_ask ⟨Nat.le_refl _, hbm⟩ (yes (by simpa using q1) (fin (by rw [q2]; rfl)))
    · subst q1
      subst q2
      subst q3
      subst q4
      exact sat_ask ⟨Nat.le_refl _, hbm⟩ (nope z0 (yes (by simp) (yes rfl (fin (sEq_refl _)))))
    · have e1 := enough_e q4
      subst q1
      subst q5
      subst q6
      refine sat_ask ⟨Nat.le_refl _, hbm⟩ (nope z0 ?_)
      rcases q7 with ⟨rfl, rfl, rfl, rfl⟩ | ⟨rfl, rfl, rfl, d, rfl, rfl, hd'⟩
      · exact nope rfl (sat_ask q3 (sat_ask ⟨Nat.le_refl _, hbm⟩ (nope (by rw [e1]; rfl) (nope (by rw [q4]; rfl) (nope (by decide) (nope (by rw [sEq_refl]; rfl) (nope (by simp) (yes rfl (yes (sEq_refl _) (fin rfl))))))))))
      · refine nope rfl (sat_ask q3 (sat_ask ⟨Nat.le_refl _, hbm⟩ (nope (by rw [e1]; rfl) (nope (by rw [q4]; rfl) (nope (by decide) (nope (by rw [sEq_refl]; rfl) (nope (by simp) (nope rfl ?_))))))))
        have want : ∀ d', h3 = d' → (wantO n8 h0 x1 h3 n8 (toC 3 h0 x1 h3) d').sat fun _ S => S.slots = [some (.bool true)] := fun d' e => by
          subst e
          have hpos : 0 < n8 := q2.2
          refine yes (sEq_refl _) (yes (by simp) (yes (decide_eq_true (by omega)) (sat_ask ⟨by decide, by omega⟩ (sat_ask hpos (fin ?_)))))
          exact decide_eq_true ⟨rfl, rfl, rfl⟩
        have best : ∀ (t' w' : Int) (s' : ByteArray), h3 = x_choice h2 t' w' s' → (bestO n8 h0 x1 h2 h3 n8 (toC 3 h0 x1 h3) t' w' s').sat fun _ S => S.slots = [some (.bool true)] := fun t' w' s' e => by
          unfold x_choice at e
          refine sat_tst (fun hq => want _ ?_) (fun hq => want _ ?_)
          · rw [hq] at e; exact e
          · rw [hq] at e; exact e
        refine sat_tst (fun hs => best x y z ?_) (fun hs => best t w s ?_)
        · rw [if_pos hs] at hd'; exact hd'
        · rw [if_neg (by rw [hs]; decide)] at hd'; exact hd'
  exact big (intV (hdV cs2)) (intV (hdV (tlV cs2))) (strV (hdV (tlV (tlV cs2)))) (strV (hdV (tlV (tlV (tlV cs2))))) (intV (hdV (tlV (tlV (tlV (tlV cs2)))))) (intV (hdV (tlV (tlV (tlV (tlV (tlV cs2))))))) (strV (hdV (tlV (tlV (tlV (tlV (tlV (tlV cs2)))))))) (intV (hdV (tlV (tlV (tlV (tlV (tlV (tlV (tlV cs2))))))))) (intV (hdV cs3)) (intV (hdV (tlV cs3))) (intV (hdV (tlV (tlV cs3)))) (intV (hdV (tlV (tlV (tlV cs3))))) (intV (hdV (tlV (tlV (tlV (tlV cs3)))))) (strV (hdV (tlV (tlV (tlV (tlV (tlV cs3)))))))

theorem K25_P : K25.P = Try.prog := rfl
theorem walk (W : World) {a0 : Option Addr} (len0 cap0 : Nat) (g0 : Nat → List Value) (x0 : Int) (w0 : ArgOk W (.rows wtK len0 g0) (.slice a0 len0 cap0)) (rg0 : ∀ j, j < len0 → rngs wtK (g0 j)) (rx0 : (Lit.int .i64 x0).wf = true) (x1 : Int) (rg1 : (Lit.int .i64 x1).wf = true) (cs2 : List Value) (rg2 : rngs biK cs2) (cs3 : List Value) (rg3 : rngs vtK cs3) : Calls Try.prog 5 #[.agg ⟨[.slice a0 len0 cap0, .int .i64 x0]⟩, .int .i64 x1, .agg ⟨norm biK cs2⟩, .agg ⟨norm vtK cs3⟩] W fun e w' => e = .returned (.bool true) ∧ Below W.heap.size W w' := by
  rewrite [← K25_P]
  refine law_ok (W := W) K25_ok (L := noL) (f := 5) (fn := Try.f5) Try.func5 (no_loops rfl) (ks := [.agg [.rows wtK, .val], .one .val, .one .val, .one .val]) (cas := [.rows wtK len0 g0, .val (.int .i64 x0), .val (.int .i64 x1), .val (.agg ⟨norm biK cs2⟩), .val (.agg ⟨norm vtK cs3⟩)]) (us := [.agg ⟨[.slice a0 len0 cap0, .int .i64 x0]⟩, .int .i64 x1, .agg ⟨norm biK cs2⟩, .agg ⟨norm vtK cs3⟩]) (ful := [.slice a0 len0 cap0, .int .i64 x0, .int .i64 x1, .agg ⟨norm biK cs2⟩, .agg ⟨norm vtK cs3⟩]) (r := .bool true) rfl rfl rfl ?_ (@law_sat len0 g0 x0 x1 cs2 cs3 rg0 rx0 rg1 rg2 rg3)
  intro i c u hc hu
  match i, hc, hu with
  | 0, hc, hu => cases hc; cases hu; exact w0
  | 1, hc, hu => cases hc; cases hu; exact ⟨rfl, rfl⟩
  | 2, hc, hu => cases hc; cases hu; exact ⟨rfl, rfl⟩
  | 3, hc, hu => cases hc; cases hu; exact ⟨rfl, rfl⟩
  | 4, hc, hu => cases hc; cases hu; exact ⟨rfl, rfl⟩
  | i + 5, hc, hu => simp at hc

set_option maxRecDepth 100000 in
theorem lifted (os : Os) (started : os.Started) (H : Type) (enc : TypeId × Value → H) :
    ReturnsInHanded {} Try.checked os 5 .any (Rows.bidGoesSpec.pre6 enc Try.prog Try.f5 Rows.bidGoesRow.domain false) (Rows.bidGoesSpec.post enc Try.prog Try.f5 false true false false) := by
  refine returnsInHanded_of_change_sized (C := Try.checked) own started (by kernel_rfl) Try.func5
    (ChangeSpec.witness6 (enc := enc) (C := Try.checked) false ⟨#[], #[.agg ⟨[.slice none 0 0, .int .i64 0]⟩, .int .i64 0, .agg ⟨norm biK []⟩, .agg ⟨norm vtK []⟩], []⟩ 8 (by kernel_rfl) (by kernel_rfl) (by kernel_rfl) (by kernel_rfl)) ?_
  intro W base args ds gs before hval0 hW hcnd hsz0 _
  have hsz : (DataW.weightsEach Try.prog (Try.f5.params.toList ++ Rows.bidGoesSpec.plain.varTypes Try.prog) (ds ++ gs)).all (· ≤ reachBytes) = true := hsz0
  clear hsz0
  have hval : ∀ (j : Nat) t v, Try.f5.params[j]? = some t → args[j]? = some v → Value.okWide Try.prog W .any base t v := hval0
  have hW' := hW
  obtain ⟨p, q, hA0, hV, rfl, hfz, hnd⟩ := hW
  have hA : DataW.TrodAll enc Try.prog W 0 (fun _ => true) true Try.f5.params.toList args.toList ds p := hA0
  rw [Try.params5] at hA hval hsz
  obtain ⟨v0, vs0, d0, ds0, p0, q0, hargs, rfl, rfl, h0, r0⟩ := trodAll_cons hA
  obtain ⟨v1, vs1, d1, ds1, p1, q1, rfl, rfl, rfl, h1, r1⟩ := trodAll_cons r0
  obtain ⟨v2, vs2, d2, ds2, p2, q2, rfl, rfl, rfl, h2, r2⟩ := trodAll_cons r1
  obtain ⟨v3, vs3, d3, ds3, p3, q3, rfl, rfl, rfl, h3, r3⟩ := trodAll_cons r2
  obtain ⟨rfl, rfl, rfl⟩ := trodAll_nil r3
  obtain rfl : args = #[v0, v1, v2, v3] := by cases args; simp_all
  obtain ⟨rfl, rfl⟩ := trodVars_none hV
  have k0 := h0
  have lt0 : ∀ x ∈ p0, x.block < W.heap.size := by obtain ⟨m, hm⟩ := k0; exact DataW.trod_lt m _ _ _ hm
  obtain ⟨a0, len0, cap0, x0, g0, rfl, w0, rg0, rx0⟩ := open_rowInt (P := Try.prog) (sh := wtK) (n := 9) (e := 3) (j := 0) Try.underlying41 (by kernel_rfl) rfl rfl (by kernel_rfl) (by kernel_rfl) Try.underlying39 Try.underlying3 (by kernel_rfl) (by kernel_rfl) (by decide) (of_decide_eq_true (by kernel_rfl)) (hval 0 41 v0 rfl rfl) h0 hsz rfl rfl
  obtain ⟨x1, rfl, rfl, rfl, w1⟩ := open_int Try.underlying3 (hval 1 3 v1 rfl rfl) h1
  have k2 := h2
  have lt2 : ∀ x ∈ p2, x.block < W.heap.size := by obtain ⟨m, hm⟩ := k2; exact DataW.trod_lt m _ _ _ hm
  obtain ⟨cs2, rfl, rg2⟩ := open_flatR (P := Try.prog) (sh := biK) (n := 9) Try.underlying44 (by kernel_rfl) (hval 2 44 v2 rfl rfl) h2
  have k3 := h3
  have lt3 : ∀ x ∈ p3, x.block < W.heap.size := by obtain ⟨m, hm⟩ := k3; exact DataW.trod_lt m _ _ _ hm
  obtain ⟨cs3, rfl, rg3⟩ := open_flatR (P := Try.prog) (sh := vtK) (n := 9) Try.underlying29 (by kernel_rfl) (hval 3 29 v3 rfl rfl) h3
  clear hA0 hval0
  refine (walk W len0 cap0 g0 x0 w0 rg0 rx0 x1 w1 cs2 rg2 cs3 rg3).mono fun e W' ⟨he, bel⟩ => ?_
  subst he
  exact ⟨_, rfl, _, _, _, [], _, [], hW', trodAll_mk1 (shut_bool Try.underlying4 _), (trodAll_cons_mk (Below.trod laidOut (by kernel_rfl) (of_decide_eq_true (by kernel_rfl)) k0 bel lt0) (trodAll_cons_mk (shut_int Try.underlying3 w1) (trodAll_cons_mk (Below.trod laidOut (by kernel_rfl) (of_decide_eq_true (by kernel_rfl)) k2 bel lt2) (trodAll_cons_mk (Below.trod laidOut (by kernel_rfl) (of_decide_eq_true (by kernel_rfl)) k3 bel lt3) trodAll_mk0)))), rfl, bel.frame _, fun h => by cases h⟩

theorem over : Rows.bidGoesRow.holds Try.pinned (OpenSpec.ofChange Rows.bidGoesSpec) :=
  OpenClaim.holds_of_wide 5 Try.f5 rfl rfl rfl rfl rfl rfl rfl ⟨rfl, rfl, rfl, rfl, rfl⟩ rfl rfl rfl rfl rfl (by kernel_rfl) Try.func5 (by kernel_rfl)
    (of_decide_eq_true (by kernel_rfl)) (by unfold Func.isWrapper; first | (rw [if_pos (by decide +kernel)]; kernel_rfl) | (rw [if_neg (by decide +kernel)]; exact ⟨rfl, rfl⟩))
    (fun os started H enc _ => lifted os started H enc)

/-- ████ THE STATEMENT ████ -/
theorem proved : Rows.BidGoesSaid := over
#print axioms proved
end Go.Proofs.Ytbmbnbhedalcnab.bidGoes
