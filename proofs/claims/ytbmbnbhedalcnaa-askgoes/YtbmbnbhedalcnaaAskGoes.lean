/- A PHASE NEVER GOES BACK, ITS BEST COPY'S STAMP NEITHER. -/
import Derived.Test.YtbmbnbhedalcnaaRows
import Derived.Test.YtbmbnbhedalcnaaMk
import Derived.Test.YtbmbnbhedalcnaaZw
import Derived.WalkKit
import Derived.ProofKit
import Derived.OpenShut
import Derived.ShutString
import Derived.ChangeOld
import Derived.Below
import Derived.SizedLaws
namespace Go.Proofs.Ytbmbnbhedalcnaa.askGoes
open Go.ChangeShapes Go.WideShapes Go.ChangeAt Go.RowKit
open Go.ChangeMaps (open_string shut_string)

theorem own : ownKnob Try.prog.godebug = none := by kernel_rfl
theorem laidOut : laidOutB Try.prog = true := by kernel_rfl

abbrev asK : List LK := [.kInt .i64, .kInt .i64, .kInt .i64, .kStr, .kInt .i64, .kInt .i64, .kStr, .kInt .u64]
abbrev bO (b : Bool) : Out := .done .ret ⟨[some (.bool b)], []⟩
abbrev eqA (r : HR) (op k p : Int) (d : ByteArray) (t w : Int) (s : ByteArray) (hd : Int) : Bool := bif true then decide (r.op = op ∧ r.k = k ∧ r.p = p ∧ r.d = d ∧ r.t = t ∧ r.w = w ∧ r.s = s ∧ r.hd = hd) else !decide (r.op = op ∧ r.k = k ∧ r.p = p ∧ r.d = d ∧ r.t = t ∧ r.w = w ∧ r.s = s ∧ r.hd = hd)
theorem enough_e {m : Nat} {g : Nat → List Value} {need s : Int} (h : x0_enough m g need s = true) : x1_enough m g need s = 0 := by
  unfold x0_enough at h
  unfold x1_enough
  have eta : (wsOf m fun j => g j) = wsOf m g := rfl
  rw [eta] at h ⊢
  cases hq : (qE (wsOf m g) need != (0 : Int)) with
  | true => rw [hq] at h; cases h
  | false =>
    rw [hq] at h
    have hq : qE (wsOf m g) need = 0 := by simpa using hq
    have h1 := (qE_m hq).2.2.2.1
    have h : decide (sV (wsOf m g) s ≥ need) = true := h
    have h := of_decide_eq_true h
    show sE (wsOf m g) s = 0
    unfold sV at h
    split at h
    · assumption
    · omega
abbrev eqC (r : HR) (x y : Int) (z : ByteArray) : Bool := bif true then decide (r.t = x ∧ r.w = y ∧ r.s = z) else !decide (r.t = x ∧ r.w = y ∧ r.s = z)
abbrev neC (r : HR) (x y : Int) (z : ByteArray) : Bool := bif false then decide (r.t = x ∧ r.w = y ∧ r.s = z) else !decide (r.t = x ∧ r.w = y ∧ r.s = z)
abbrev putO (m : Nat) (r : HR) (op : Int) : Out := .ask (r.n8 = r.n8 ∧ r.n8 = r.n8 ∧ m = m ∧ m = m ∧ (0 : Int) = 0 ∧ r.n8 ≤ 140737488355328 ∧ ∀ j, j < r.n8 → mOk r.g8 op r.t r.w r.s j = true) (bO ((r.n8 : Int) == (m : Int)))
abbrev readO (m : Nat) (r : HR) (op k t w : Int) (s : ByteArray) (x y : Int) (z : ByteArray) : Out := tst (k == 1) (tst (neC r t w s) (tst (neC r x y z) (bO false) (putO m r op)) (putO m r op)) (putO m r op)
abbrev goT (m : Nat) (r : HR) (op k p : Int) (d : ByteArray) (t w : Int) (s : ByteArray) (x y : Int) (z : ByteArray) : Out :=
  tst (p == 2) (tst ((r.n8 : Int) == 0) (bO (eqC r t w s)) (bO false)) (tst (k == 2) (tst (!slt (t, w) (r.t, r.w)) (bO false) (tst (!slt (x, y) (r.t, r.w)) (bO false) (tst (!ByteArray.toList r.s == ByteArray.toList d) (bO false) (tst (r.w != op) (bO false) (readO m r op k t w s x y z))))) (readO m r op k t w s x y z))
abbrev goO' (m : Nat) (g : Nat → List Value) (need : Int) (r : HR) (op k p : Int) (d : ByteArray) (t w : Int) (s : ByteArray) (hd n x y : Int) (z : ByteArray) (p1 : Int) : Out :=
  tst (r.e != 0) (bO ((r.n8 : Int) == 0)) (tst (decide (r.p < p)) (bO false) (tst (decide (r.p > p1)) (bO false) (tst (slt (r.t, r.w) (t, w)) (bO false) (tst (r.op != op) (bO false) (tst (r.k != k) (bO false) (tst (!ByteArray.toList r.d == ByteArray.toList d) (bO false)
    (tst (r.p == p) (bO ((r.n8 : Int) == 0)) (.ask (0 ≤ n) (.ask (m ≤ m ∧ m ≤ 140737488355328) (tst (x1_enough m g need (heardN hd n) != 0) (bO false) (tst (!x0_enough m g need (heardN hd n)) (bO false) (goT m r op k p d t w s x y z))))))))))))
abbrev goO (m : Nat) (g : Nat → List Value) (need : Int) (r : HR) (op k p : Int) (d : ByteArray) (t w : Int) (s : ByteArray) (hd n x y : Int) (z : ByteArray) : Out := .ask (m ≤ m ∧ m ≤ 140737488355328) (goO' m g need r op k p d t w s hd n x y z (IntKind.wrap .i64 (p + 1)))
theorem neC_f {r : HR} {x y : Int} {z : ByteArray} (h : neC r x y z = true) : ¬ (r.t = x ∧ r.w = y ∧ r.s = z) := fun e => by
  have h : (!decide (r.t = x ∧ r.w = y ∧ r.s = z)) = true := h
  rw [decide_eq_true e] at h
  cases h
theorem run_goes (m : Nat) (g : Nat → List Value) (need op k p : Int) (d : ByteArray) (t w : Int) (s : ByteArray) (hd mk mo n x y : Int) (z : ByteArray) : evV K25 lAG Try.f7 [.agg ⟨[.slice (some ⟨0, 0, some 0⟩) m m, .int .i64 need]⟩, .agg ⟨[.int .i64 op, .int .i64 k, .int .i64 p, .string d, .int .i64 t, .int .i64 w, .string s, .int .u64 hd]⟩, .agg ⟨[.int .i64 mk, .int .i64 mo, .int .i64 n, .int .i64 x, .int .i64 y, .string z]⟩] [.recs wtK m g] = goO m g need (hR m g need op k p d t w s hd mk mo n x y z) op k p d t w s hd n x y z := by kernel_rfl
/-- the best is above both -/
theorem bst_ge {p t w : Int} {s : ByteArray} {x y : Int} {z : ByteArray} (h1 : cck ((t, w), s) = 0) (h2 : cck ((x, y), z) = 0) : slt (bst p t w s x y z).1 (t, w) = false ∧ (p = 1 → slt (bst p t w s x y z).1 (x, y) = false) := by
  unfold bst
  cases hp : (p == 1) with
  | false => exact ⟨slt_irr _, fun e => by rw [e] at hp; cases hp⟩
  | true =>
    rw [cond_true, mg_two h1 h2]
    cases hs : slt (t, w) (x, y) with
    | true => rw [if_pos rfl]; exact ⟨slt_as hs, fun _ => slt_irr _⟩
    | false => rw [if_neg (by decide)]; exact ⟨slt_irr _, fun _ => hs⟩
theorem bst_or {p t w : Int} {s : ByteArray} {x y : Int} {z : ByteArray} (h1 : cck ((t, w), s) = 0) (h2 : cck ((x, y), z) = 0) : bst p t w s x y z = ((t, w), s) ∨ bst p t w s x y z = ((x, y), z) := by
  unfold bst
  cases hp : (p == 1) with
  | false => exact .inl rfl
  | true =>
    rw [cond_true, mg_two h1 h2]
    split
    · exact .inr rfl
    · exact .inl rfl
theorem nx_up {t w op : Int} (h : nxE t w op = 0) : nxW t w op = op ∧ nxT t w op = t + 1 := by
  have hb : (nxE t w op != 0) = false := by simpa using h
  have e1 : nxT t w op = IntKind.wrap .i64 (t + 1) := by unfold nxT; rw [hb]; rfl
  have e2 : nxW t w op = op := by unfold nxW; rw [hb]; rfl
  refine ⟨e2, ?_⟩
  rw [e1]
  unfold nxE at h
  rw [cz2] at h
  have h1 := h.1
  unfold sck at h1
  have : 0 ≤ t ∧ t ≤ 1000000 := by
    by_cases hh : (t, w).1 < 0 ∨ 1000000 < (t, w).1 ∨ (t, w).2 < 0 ∨ 31 < (t, w).2
    · rw [if_pos hh] at h1; cases h1
    · have hh : ¬ (t < 0 ∨ 1000000 < t ∨ w < 0 ∨ 31 < w) := hh
      omega
  rw [IntKind.wrap_i64]
  omega
theorem law_sat (len0 : Nat) (g0 : Nat → List Value) (x0 : Int) (cs1 cs2 : List Value) (_r0 : ∀ j, j < len0 → rngs wtK (g0 j)) (_r1 : (Lit.int .i64 x0).wf = true) (r3 : rngs asK cs1) (_r4 : rngs msK cs2) : Bnd [.rows wtK len0 g0, .val (.int .i64 x0), .val (.agg ⟨norm asK cs1⟩), .val (.agg ⟨norm msK cs2⟩)] → (evV K25 lAG Try.f7 (regr [.agg [.rows wtK, .val], .one .val, .one .val] (canonA 0 [.rows wtK len0 g0, .val (.int .i64 x0), .val (.agg ⟨norm asK cs1⟩), .val (.agg ⟨norm msK cs2⟩)])) (canonH [.rows wtK len0 g0, .val (.int .i64 x0), .val (.agg ⟨norm asK cs1⟩), .val (.agg ⟨norm msK cs2⟩)])).sat fun _ S => S.slots = [some (.bool true)] := fun hb => by
  have hbm : len0 ≤ 140737488355328 := hb.1
  have big : ∀ (op k p : Int) (d : ByteArray) (t w : Int) (s : ByteArray) (hd mk mo n x y : Int) (z : ByteArray), (Lit.int .u64 hd).wf = true → (evV K25 lAG Try.f7 [.agg ⟨[.slice (some ⟨0, 0, some 0⟩) len0 len0, .int .i64 x0]⟩, .agg ⟨[.int .i64 op, .int .i64 k, .int .i64 p, .string d, .int .i64 t, .int .i64 w, .string s, .int .u64 hd]⟩, .agg ⟨[.int .i64 mk, .int .i64 mo, .int .i64 n, .int .i64 x, .int .i64 y, .string z]⟩] [.recs wtK len0 g0]).sat fun _ S => S.slots = [some (.bool true)] := fun op k p d t w s hd mk mo n x y z hw => by
    rw [run_goes, hR_eq]
    have yes : ∀ {c : Bool} {q r : Out} {Φ : Lf}, c = true → q.sat Φ → (tst c q r).sat Φ := fun h1 h2 => by subst h1; exact h2
    have nope : ∀ {c : Bool} {q r : Out} {Φ : Lf}, c = false → r.sat Φ → (tst c q r).sat Φ := fun h1 h2 => by subst h1; exact h2
    have fin : ∀ {b : Bool}, b = true → (bO b).sat fun _ S => S.slots = [some (.bool true)] := fun h => by subst h; rfl
    have nel : ∀ (u : ByteArray), (!ByteArray.toList u == ByteArray.toList u) = false := fun u => by simp
    have nei : ∀ (u : Int), (u != u) = false := fun u => by simp
    refine sat_ask ⟨Nat.le_refl _, hbm⟩ ?_
    cases h0 : (x_achk len0 g0 x0 op k p d t w s hd != (0 : Int)) with
    | true =>
      have e : hV len0 g0 x0 op k p d t w s hd mk mo n x y z = ⟨0, 0, 0, zS, 0, 0, zS, 0, 0, nil8, x_achk len0 g0 x0 op k p d t w s hd⟩ := by unfold hV; rw [h0]; rfl
      rw [e]
      exact yes h0 rfl
    | false =>
      cases h1 : (x_wchk mk mo n x y z != (0 : Int)) with
      | true =>
        have e : hV len0 g0 x0 op k p d t w s hd mk mo n x y z = ⟨0, 0, 0, zS, 0, 0, zS, 0, 0, nil8, x_wchk mk mo n x y z⟩ := by unfold hV; rw [h0, h1]; rfl
        rw [e]
        exact yes h1 rfl
      | false =>
        have h0 : x_achk len0 g0 x0 op k p d t w s hd = 0 := by simpa using h0
        have h1 : x_wchk mk mo n x y z = 0 := by simpa using h1
        obtain ⟨a1, a2, a3, a4, a5, a6, a7, a8, a9⟩ := achk_iff.1 h0
        obtain ⟨hcx, hn0⟩ := wchk_c h1
        obtain ⟨g1, g2⟩ := bst_ge (p := p) a8 hcx
        have hp : 1 ≤ p ∧ p ≤ 3 := by
          unfold x_aphase at a5
          cases q1 : decide (1 ≤ p) with
          | false => rw [q1] at a5; cases a5
          | true =>
            rw [q1, cond_true] at a5
            cases q2 : decide (p ≤ 3) with
            | false => rw [q2] at a5; cases a5
            | true => exact ⟨of_decide_eq_true q1, of_decide_eq_true q2⟩
        have hw1 : IntKind.wrap .i64 (p + 1) = p + 1 := by rw [IntKind.wrap_i64]; omega
        rw [hw1]
        -- the phase is the same
        have stay : ∀ (t' w' : Int) (s' : ByteArray) (hd' : Int), slt (t', w') (t, w) = false → (goO' len0 g0 x0 ⟨op, k, p, d, t', w', s', hd', 0, nil8, 0⟩ op k p d t w s hd n x y z (p + 1)).sat fun _ S => S.slots = [some (.bool true)] := fun t' w' s' hd' hs =>
          nope rfl (nope (decide_eq_false (by show ¬ p < p; omega)) (nope (decide_eq_false (by show ¬ p > p + 1; omega)) (nope hs (nope (nei _) (nope (nei _) (nope (nel _) (yes (by simp) rfl)))))))
        have go : ∀ (r : HR), r.e = 0 → r.op = op → r.k = k → r.d = d → r.p = p + 1 → slt (r.t, r.w) (t, w) = false → x0_enough len0 g0 x0 (heardN hd n) = true → (goT len0 r op k p d t w s x y z).sat (fun _ S => S.slots = [some (.bool true)]) → (goO' len0 g0 x0 r op k p d t w s hd n x y z (p + 1)).sat fun _ S => S.slots = [some (.bool true)] := fun r e1 e2 e3 e4 e5 e6 e7 h =>
          nope (by rw [e1]; rfl) (nope (decide_eq_false (by omega)) (nope (decide_eq_false (by omega)) (nope e6 (nope (by rw [e2]; exact nei _) (nope (by rw [e3]; exact nei _) (nope (by rw [e4]; exact nel _) (nope (by rw [e5]; simp; omega) (sat_ask hn0 (sat_ask ⟨Nat.le_refl _, hbm⟩ (nope (by rw [enough_e e7]; rfl) (nope (by rw [e7]; rfl) h)))))))))))
        have put : ∀ (r : HR), r.n8 = len0 → r.g8 = toC 3 op r.t r.w r.s → (putO len0 r op).sat fun _ S => S.slots = [some (.bool true)] := fun r e1 e2 =>
          sat_ask ⟨rfl, rfl, rfl, rfl, rfl, by omega, fun j _ => by rw [e2]; exact decide_eq_true ⟨rfl, rfl, rfl, rfl, rfl, rfl⟩⟩ (fin (by rw [e1]; simp))
        rcases hV_cases h0 h1 with ⟨h2, e⟩ | ⟨h2, h⟩
        · rw [e]; exact stay _ _ _ _ (slt_irr _)
        · obtain ⟨-, rfl, -, -⟩ := wait_t h2
          rcases h with ⟨h3, e⟩ | ⟨h3, hp2, e⟩ | ⟨h3, hp1, hk, hx, e⟩ | ⟨h3, hp1, hk, hx, e⟩ | ⟨h3, hp1, hk, e⟩
          · rw [e]; exact stay _ _ _ _ g1
          · rw [e]
            subst hp2
            exact go _ rfl rfl rfl rfl rfl (slt_irr _) h3 (yes rfl (yes rfl (fin (decide_eq_true ⟨rfl, rfl, rfl⟩))))
          · rw [e]; exact stay _ _ _ _ (slt_irr _)
          · rw [e]
            subst hp1
            subst hk
            obtain ⟨u1, u2⟩ := nx_up hx
            have up : ∀ a b : Int, slt (bst 1 t w s x y z).1 (a, b) = false → slt (a, b) (nxT (bst 1 t w s x y z).1.1 (bst 1 t w s x y z).1.2 mo, nxW (bst 1 t w s x y z).1.1 (bst 1 t w s x y z).1.2 mo) = true := fun a b h => by
              have h := (slt_niff _ _).1 h
              refine slt_t (.inl ?_)
              show a < nxT _ _ _
              rw [u2]
              have h : ¬ ((bst 1 t w s x y z).1.1 < a ∨ (bst 1 t w s x y z).1.1 = a ∧ (bst 1 t w s x y z).1.2 < b) := h
              omega
            have s1 := up t w g1
            have s2 := up x y (g2 rfl)
            refine go _ rfl rfl rfl rfl rfl (slt_as s1) h3 (nope rfl (yes rfl (nope (by show (!slt (t, w) _) = false; rw [s1]; rfl) (nope (by show (!slt (x, y) _) = false; rw [s2]; rfl) (nope (nel _) (nope (by rw [u1]; exact nei _) (nope rfl (put _ rfl rfl))))))))
          · rw [e]
            subst hp1
            refine go _ rfl rfl rfl rfl rfl g1 h3 (nope rfl (nope (by simpa using hk) ?_))
            refine sat_tst (fun _ => sat_tst (fun c1 => sat_tst (fun c2 => ?_) (fun _ => put _ rfl rfl)) (fun _ => put _ rfl rfl)) (fun _ => put _ rfl rfl)
            exfalso
            have c1 := neC_f c1
            have c2 := neC_f c2
            rcases bst_or (p := 1) a8 hcx with h | h
            · exact c1 (by show (bst 1 t w s x y z).1.1 = t ∧ (bst 1 t w s x y z).1.2 = w ∧ (bst 1 t w s x y z).2 = s; rw [h]; exact ⟨rfl, rfl, rfl⟩)
            · exact c2 (by show (bst 1 t w s x y z).1.1 = x ∧ (bst 1 t w s x y z).1.2 = y ∧ (bst 1 t w s x y z).2 = z; rw [h]; exact ⟨rfl, rfl, rfl⟩)
  exact big (intV (hdV cs1)) (intV (hdV (tlV cs1))) (intV (hdV (tlV (tlV cs1)))) (strV (hdV (tlV (tlV (tlV cs1))))) (intV (hdV (tlV (tlV (tlV (tlV cs1)))))) (intV (hdV (tlV (tlV (tlV (tlV (tlV cs1))))))) (strV (hdV (tlV (tlV (tlV (tlV (tlV (tlV cs1)))))))) (intV (hdV (tlV (tlV (tlV (tlV (tlV (tlV (tlV cs1))))))))) (intV (hdV cs2)) (intV (hdV (tlV cs2))) (intV (hdV (tlV (tlV cs2)))) (intV (hdV (tlV (tlV (tlV cs2))))) (intV (hdV (tlV (tlV (tlV (tlV cs2)))))) (strV (hdV (tlV (tlV (tlV (tlV (tlV cs2))))))) r3.2.2.2.2.2.2.2.1

theorem K25_P : K25.P = Try.prog := rfl
theorem walk (W : World) {a0 : Option Addr} (len0 cap0 : Nat) (g0 : Nat → List Value) (x0 : Int) (w0 : ArgOk W (.rows wtK len0 g0) (.slice a0 len0 cap0)) (rg0 : ∀ j, j < len0 → rngs wtK (g0 j)) (rx0 : (Lit.int .i64 x0).wf = true) (cs1 : List Value) (rg1 : rngs asK cs1) (cs2 : List Value) (rg2 : rngs msK cs2) : Calls Try.prog 7 #[.agg ⟨[.slice a0 len0 cap0, .int .i64 x0]⟩, .agg ⟨norm asK cs1⟩, .agg ⟨norm msK cs2⟩] W fun e w' => e = .returned (.bool true) ∧ Below W.heap.size W w' := by
  rewrite [← K25_P]
  refine law_ok (W := W) K25_ok (L := lAG) (f := 7) (fn := Try.f7) Try.func7 (one_loop (by kernel_rfl) lAG_ok) (ks := [.agg [.rows wtK, .val], .one .val, .one .val]) (cas := [.rows wtK len0 g0, .val (.int .i64 x0), .val (.agg ⟨norm asK cs1⟩), .val (.agg ⟨norm msK cs2⟩)]) (us := [.agg ⟨[.slice a0 len0 cap0, .int .i64 x0]⟩, .agg ⟨norm asK cs1⟩, .agg ⟨norm msK cs2⟩]) (ful := [.slice a0 len0 cap0, .int .i64 x0, .agg ⟨norm asK cs1⟩, .agg ⟨norm msK cs2⟩]) (r := .bool true) rfl rfl rfl ?_ (@law_sat len0 g0 x0 cs1 cs2 rg0 rx0 rg1 rg2)
  intro i c u hc hu
  match i, hc, hu with
  | 0, hc, hu => cases hc; cases hu; exact w0
  | 1, hc, hu => cases hc; cases hu; exact ⟨rfl, rfl⟩
  | 2, hc, hu => cases hc; cases hu; exact ⟨rfl, rfl⟩
  | 3, hc, hu => cases hc; cases hu; exact ⟨rfl, rfl⟩
  | i + 4, hc, hu => simp at hc

set_option maxRecDepth 100000 in
theorem lifted (os : Os) (started : os.Started) (H : Type) (enc : TypeId × Value → H) :
    ReturnsInHanded {} Try.checked os 7 .any (Rows.askGoesSpec.pre6 enc Try.prog Try.f7 Rows.askGoesRow.domain false) (Rows.askGoesSpec.post enc Try.prog Try.f7 false true false false) := by
  refine returnsInHanded_of_change_sized (C := Try.checked) own started (by kernel_rfl) Try.func7
    (ChangeSpec.witness6 (enc := enc) (C := Try.checked) false ⟨#[], #[.agg ⟨[.slice none 0 0, .int .i64 0]⟩, .agg ⟨norm asK []⟩, .agg ⟨norm msK []⟩], []⟩ 8 (by kernel_rfl) (by kernel_rfl) (by kernel_rfl) (by kernel_rfl)) ?_
  intro W base args ds gs before hval0 hW hcnd hsz0 _
  have hsz : (DataW.weightsEach Try.prog (Try.f7.params.toList ++ Rows.askGoesSpec.plain.varTypes Try.prog) (ds ++ gs)).all (· ≤ reachBytes) = true := hsz0
  clear hsz0
  have hval : ∀ (j : Nat) t v, Try.f7.params[j]? = some t → args[j]? = some v → Value.okWide Try.prog W .any base t v := hval0
  have hW' := hW
  obtain ⟨p, q, hA0, hV, rfl, hfz, hnd⟩ := hW
  have hA : DataW.TrodAll enc Try.prog W 0 (fun _ => true) true Try.f7.params.toList args.toList ds p := hA0
  rw [Try.params7] at hA hval hsz
  obtain ⟨v0, vs0, d0, ds0, p0, q0, hargs, rfl, rfl, h0, r0⟩ := trodAll_cons hA
  obtain ⟨v1, vs1, d1, ds1, p1, q1, rfl, rfl, rfl, h1, r1⟩ := trodAll_cons r0
  obtain ⟨v2, vs2, d2, ds2, p2, q2, rfl, rfl, rfl, h2, r2⟩ := trodAll_cons r1
  obtain ⟨rfl, rfl, rfl⟩ := trodAll_nil r2
  obtain rfl : args = #[v0, v1, v2] := by cases args; simp_all
  obtain ⟨rfl, rfl⟩ := trodVars_none hV
  have k0 := h0
  have lt0 : ∀ x ∈ p0, x.block < W.heap.size := by obtain ⟨m, hm⟩ := k0; exact DataW.trod_lt m _ _ _ hm
  obtain ⟨a0, len0, cap0, x0, g0, rfl, w0, rg0, rx0⟩ := open_rowInt (P := Try.prog) (sh := wtK) (n := 9) (e := 3) (j := 0) Try.underlying33 (by kernel_rfl) rfl rfl (by kernel_rfl) (by kernel_rfl) Try.underlying31 Try.underlying3 (by kernel_rfl) (by kernel_rfl) (by decide) (of_decide_eq_true (by kernel_rfl)) (hval 0 33 v0 rfl rfl) h0 hsz rfl rfl
  have k1 := h1
  have lt1 : ∀ x ∈ p1, x.block < W.heap.size := by obtain ⟨m, hm⟩ := k1; exact DataW.trod_lt m _ _ _ hm
  obtain ⟨cs1, rfl, rg1⟩ := open_flatR (P := Try.prog) (sh := asK) (n := 9) Try.underlying38 (by kernel_rfl) (hval 1 38 v1 rfl rfl) h1
  have k2 := h2
  have lt2 : ∀ x ∈ p2, x.block < W.heap.size := by obtain ⟨m, hm⟩ := k2; exact DataW.trod_lt m _ _ _ hm
  obtain ⟨cs2, rfl, rg2⟩ := open_flatR (P := Try.prog) (sh := msK) (n := 9) Try.underlying40 (by kernel_rfl) (hval 2 40 v2 rfl rfl) h2
  clear hA0 hval0
  refine (walk W len0 cap0 g0 x0 w0 rg0 rx0 cs1 rg1 cs2 rg2).mono fun e W' ⟨he, bel⟩ => ?_
  subst he
  exact ⟨_, rfl, _, _, _, [], _, [], hW', trodAll_mk1 (shut_bool Try.underlying4 _), (trodAll_cons_mk (Below.trod laidOut (by kernel_rfl) (of_decide_eq_true (by kernel_rfl)) k0 bel lt0) (trodAll_cons_mk (Below.trod laidOut (by kernel_rfl) (of_decide_eq_true (by kernel_rfl)) k1 bel lt1) (trodAll_cons_mk (Below.trod laidOut (by kernel_rfl) (of_decide_eq_true (by kernel_rfl)) k2 bel lt2) trodAll_mk0))), rfl, bel.frame _, fun h => by cases h⟩

theorem over : Rows.askGoesRow.holds Try.pinned (OpenSpec.ofChange Rows.askGoesSpec) :=
  OpenClaim.holds_of_wide 7 Try.f7 rfl rfl rfl rfl rfl rfl rfl ⟨rfl, rfl, rfl, rfl, rfl⟩ rfl rfl rfl rfl rfl (by kernel_rfl) Try.func7 (by kernel_rfl)
    (of_decide_eq_true (by kernel_rfl)) (by unfold Func.isWrapper; first | (rw [if_pos (by decide +kernel)]; kernel_rfl) | (rw [if_neg (by decide +kernel)]; exact ⟨rfl, rfl⟩))
    (fun os started H enc _ => lifted os started H enc)

/-- ████ THE STATEMENT ████ -/
theorem proved : Rows.AskGoesSaid := over
#print axioms proved
end Go.Proofs.Ytbmbnbhedalcnaa.askGoes
