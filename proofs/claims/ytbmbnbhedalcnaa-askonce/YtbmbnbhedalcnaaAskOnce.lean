/- A MESSAGE THAT COMES TWICE CHANGES NOTHING MORE, as long as the phase is the same. -/
import Derived.Test.YtbmbnbhedalcnaaRows
import Derived.Test.YtbmbnbhedalcnaaMj
import Derived.Test.YtbmbnbhedalcnaaZw
import Derived.WalkKit
import Derived.ProofKit
import Derived.OpenShut
import Derived.ShutString
import Derived.ChangeOld
import Derived.Below
import Derived.SizedLaws
namespace Go.Proofs.Ytbmbnbhedalcnaa.askOnce
open Go.ChangeShapes Go.WideShapes Go.ChangeAt Go.RowKit
open Go.ChangeMaps (open_string shut_string)

theorem own : ownKnob Try.prog.godebug = none := by kernel_rfl
theorem laidOut : laidOutB Try.prog = true := by kernel_rfl

abbrev asK : List LK := [.kInt .i64, .kInt .i64, .kInt .i64, .kStr, .kInt .i64, .kInt .i64, .kStr, .kInt .u64]
abbrev bO (b : Bool) : Out := .done .ret ⟨[some (.bool b)], []⟩
abbrev eqA (r : HR) (op k p : Int) (d : ByteArray) (t w : Int) (s : ByteArray) (hd : Int) : Bool := bif true then decide (r.op = op ∧ r.k = k ∧ r.p = p ∧ r.d = d ∧ r.t = t ∧ r.w = w ∧ r.s = s ∧ r.hd = hd) else !decide (r.op = op ∧ r.k = k ∧ r.p = p ∧ r.d = d ∧ r.t = t ∧ r.w = w ∧ r.s = s ∧ r.hd = hd)
theorem eqY {r : HR} {op k p : Int} {d : ByteArray} {t w : Int} {s : ByteArray} {hd : Int} (h : r.op = op ∧ r.k = k ∧ r.p = p ∧ r.d = d ∧ r.t = t ∧ r.w = w ∧ r.s = s ∧ r.hd = hd) : eqA r op k p d t w s hd = true := decide_eq_true h
abbrev hR2 (m : Nat) (g : Nat → List Value) (need : Int) (r : HR) (mk mo n x y : Int) (z : ByteArray) : HR := hR m g need r.op r.k r.p r.d r.t r.w r.s r.hd mk mo n x y z
abbrev onceO (m : Nat) (r q : HR) (p : Int) : Out :=
  .ask (m ≤ m ∧ m ≤ 140737488355328) (tst (r.e != 0) (bO (eqA r 0 0 0 { data := { toList := [] } } 0 0 { data := { toList := [] } } 0)) (.ask (m ≤ m ∧ m ≤ 140737488355328) (tst (q.e == 0) (tst (r.p != p) (bO true) (tst (eqA q r.op r.k r.p r.d r.t r.w r.s r.hd) (bO ((q.n8 : Int) == 0)) (bO false))) (bO false))))
theorem run_once (m : Nat) (g : Nat → List Value) (need op k p : Int) (d : ByteArray) (t w : Int) (s : ByteArray) (hd mk mo n x y : Int) (z : ByteArray) : evV K25 noL Try.f6 [.agg ⟨[.slice (some ⟨0, 0, some 0⟩) m m, .int .i64 need]⟩, .agg ⟨[.int .i64 op, .int .i64 k, .int .i64 p, .string d, .int .i64 t, .int .i64 w, .string s, .int .u64 hd]⟩, .agg ⟨[.int .i64 mk, .int .i64 mo, .int .i64 n, .int .i64 x, .int .i64 y, .string z]⟩] [.recs wtK m g] = onceO m (hR m g need op k p d t w s hd mk mo n x y z) (hR2 m g need (hR m g need op k p d t w s hd mk mo n x y z) mk mo n x y z) p := by kernel_rfl
theorem law_sat (len0 : Nat) (g0 : Nat → List Value) (x0 : Int) (cs1 cs2 : List Value) (_r0 : ∀ j, j < len0 → rngs wtK (g0 j)) (_r1 : (Lit.int .i64 x0).wf = true) (r3 : rngs asK cs1) (_r4 : rngs msK cs2) : Bnd [.rows wtK len0 g0, .val (.int .i64 x0), .val (.agg ⟨norm asK cs1⟩), .val (.agg ⟨norm msK cs2⟩)] → (evV K25 noL Try.f6 (regr [.agg [.rows wtK, .val], .one .val, .one .val] (canonA 0 [.rows wtK len0 g0, .val (.int .i64 x0), .val (.agg ⟨norm asK cs1⟩), .val (.agg ⟨norm msK cs2⟩)])) (canonH [.rows wtK len0 g0, .val (.int .i64 x0), .val (.agg ⟨norm asK cs1⟩), .val (.agg ⟨norm msK cs2⟩)])).sat fun _ S => S.slots = [some (.bool true)] := fun hb => by
  have hbm : len0 ≤ 140737488355328 := hb.1
  have big : ∀ (op k p : Int) (d : ByteArray) (t w : Int) (s : ByteArray) (hd mk mo n x y : Int) (z : ByteArray), (Lit.int .u64 hd).wf = true → (evV K25 noL Try.f6 [.agg ⟨[.slice (some ⟨0, 0, some 0⟩) len0 len0, .int .i64 x0]⟩, .agg ⟨[.int .i64 op, .int .i64 k, .int .i64 p, .string d, .int .i64 t, .int .i64 w, .string s, .int .u64 hd]⟩, .agg ⟨[.int .i64 mk, .int .i64 mo, .int .i64 n, .int .i64 x, .int .i64 y, .string z]⟩] [.recs wtK len0 g0]).sat fun _ S => S.slots = [some (.bool true)] := fun op k p d t w s hd mk mo n x y z hw => by
    rw [run_once]
    have yes : ∀ {c : Bool} {q r : Out} {Φ : Lf}, c = true → q.sat Φ → (tst c q r).sat Φ := fun h1 h2 => by subst h1; exact h2
    have nope : ∀ {c : Bool} {q r : Out} {Φ : Lf}, c = false → r.sat Φ → (tst c q r).sat Φ := fun h1 h2 => by subst h1; exact h2
    refine sat_ask ⟨Nat.le_refl _, hbm⟩ ?_
    generalize hr : hR len0 g0 x0 op k p d t w s hd mk mo n x y z = r
    rw [hR_eq] at hr
    have zq : ∀ e : Int, eqA ⟨0, 0, 0, zS, 0, 0, zS, 0, 0, nil8, e⟩ 0 0 0 zS 0 0 zS 0 = true := fun e => eqY ⟨rfl, rfl, rfl, rfl, rfl, rfl, rfl, rfl⟩
    cases h0 : (x_achk len0 g0 x0 op k p d t w s hd != (0 : Int)) with
    | true =>
      have e : r = ⟨0, 0, 0, zS, 0, 0, zS, 0, 0, nil8, x_achk len0 g0 x0 op k p d t w s hd⟩ := by rw [← hr]; unfold hV; rw [h0]; rfl
      subst e
      refine yes h0 ?_
      show (bO (eqA ⟨0, 0, 0, zS, 0, 0, zS, 0, 0, nil8, _⟩ 0 0 0 zS 0 0 zS 0)).sat _
      rw [zq]
      rfl
    | false =>
      cases h1 : (x_wchk mk mo n x y z != (0 : Int)) with
      | true =>
        have e : r = ⟨0, 0, 0, zS, 0, 0, zS, 0, 0, nil8, x_wchk mk mo n x y z⟩ := by rw [← hr]; unfold hV; rw [h0, h1]; rfl
        subst e
        refine yes h1 ?_
        show (bO (eqA ⟨0, 0, 0, zS, 0, 0, zS, 0, 0, nil8, _⟩ 0 0 0 zS 0 0 zS 0)).sat _
        rw [zq]
        rfl
      | false =>
        have h0 : x_achk len0 g0 x0 op k p d t w s hd = 0 := by simpa using h0
        have h1 : x_wchk mk mo n x y z = 0 := by simpa using h1
        have er : r.e = 0 := by rw [← hr]; exact hV_zero h0 h1
        refine nope (by rw [er]; rfl) (sat_ask ⟨Nat.le_refl _, hbm⟩ ?_)
        generalize hq : hR2 len0 g0 x0 r mk mo n x y z = q
        rw [show hR2 len0 g0 x0 r mk mo n x y z = hV len0 g0 x0 r.op r.k r.p r.d r.t r.w r.s r.hd mk mo n x y z from hR_eq] at hq
        obtain ⟨q1, q2⟩ := again hw h0 h1 hr.symm hq.symm
        refine yes (by rw [q1]; rfl) ?_
        rcases q2 with q2 | q2
        · exact yes (by simpa using q2) rfl
        · refine sat_tst (fun _ => rfl) (fun _ => yes ?_ ?_)
          · rw [q2]; exact eqY ⟨rfl, rfl, rfl, rfl, rfl, rfl, rfl, rfl⟩
          · rw [q2]; rfl
  exact big (intV (hdV cs1)) (intV (hdV (tlV cs1))) (intV (hdV (tlV (tlV cs1)))) (strV (hdV (tlV (tlV (tlV cs1))))) (intV (hdV (tlV (tlV (tlV (tlV cs1)))))) (intV (hdV (tlV (tlV (tlV (tlV (tlV cs1))))))) (strV (hdV (tlV (tlV (tlV (tlV (tlV (tlV cs1)))))))) (intV (hdV (tlV (tlV (tlV (tlV (tlV (tlV (tlV cs1))))))))) (intV (hdV cs2)) (intV (hdV (tlV cs2))) (intV (hdV (tlV (tlV cs2)))) (intV (hdV (tlV (tlV (tlV cs2))))) (intV (hdV (tlV (tlV (tlV (tlV cs2)))))) (strV (hdV (tlV (tlV (tlV (tlV (tlV cs2))))))) r3.2.2.2.2.2.2.2.1

theorem K25_P : K25.P = Try.prog := rfl
theorem walk (W : World) {a0 : Option Addr} (len0 cap0 : Nat) (g0 : Nat → List Value) (x0 : Int) (w0 : ArgOk W (.rows wtK len0 g0) (.slice a0 len0 cap0)) (rg0 : ∀ j, j < len0 → rngs wtK (g0 j)) (rx0 : (Lit.int .i64 x0).wf = true) (cs1 : List Value) (rg1 : rngs asK cs1) (cs2 : List Value) (rg2 : rngs msK cs2) : Calls Try.prog 6 #[.agg ⟨[.slice a0 len0 cap0, .int .i64 x0]⟩, .agg ⟨norm asK cs1⟩, .agg ⟨norm msK cs2⟩] W fun e w' => e = .returned (.bool true) ∧ Below W.heap.size W w' := by
  rewrite [← K25_P]
  refine law_ok (W := W) K25_ok (L := noL) (f := 6) (fn := Try.f6) Try.func6 (no_loops rfl) (ks := [.agg [.rows wtK, .val], .one .val, .one .val]) (cas := [.rows wtK len0 g0, .val (.int .i64 x0), .val (.agg ⟨norm asK cs1⟩), .val (.agg ⟨norm msK cs2⟩)]) (us := [.agg ⟨[.slice a0 len0 cap0, .int .i64 x0]⟩, .agg ⟨norm asK cs1⟩, .agg ⟨norm msK cs2⟩]) (ful := [.slice a0 len0 cap0, .int .i64 x0, .agg ⟨norm asK cs1⟩, .agg ⟨norm msK cs2⟩]) (r := .bool true) rfl rfl rfl ?_ (@law_sat len0 g0 x0 cs1 cs2 rg0 rx0 rg1 rg2)
  intro i c u hc hu
  match i, hc, hu with
  | 0, hc, hu => cases hc; cases hu; exact w0
  | 1, hc, hu => cases hc; cases hu; exact ⟨rfl, rfl⟩
  | 2, hc, hu => cases hc; cases hu; exact ⟨rfl, rfl⟩
  | 3, hc, hu => cases hc; cases hu; exact ⟨rfl, rfl⟩
  | i + 4, hc, hu => simp at hc

set_option maxRecDepth 100000 in
theorem lifted (os : Os) (started : os.Started) (H : Type) (enc : TypeId × Value → H) :
    ReturnsInHanded {} Try.checked os 6 .any (Rows.askOnceSpec.pre6 enc Try.prog Try.f6 Rows.askOnceRow.domain false) (Rows.askOnceSpec.post enc Try.prog Try.f6 false true false false) := by
  refine returnsInHanded_of_change_sized (C := Try.checked) own started (by kernel_rfl) Try.func6
    (ChangeSpec.witness6 (enc := enc) (C := Try.checked) false ⟨#[], #[.agg ⟨[.slice none 0 0, .int .i64 0]⟩, .agg ⟨norm asK []⟩, .agg ⟨norm msK []⟩], []⟩ 8 (by kernel_rfl) (by kernel_rfl) (by kernel_rfl) (by kernel_rfl)) ?_
  intro W base args ds gs before hval0 hW hcnd hsz0 _
  have hsz : (DataW.weightsEach Try.prog (Try.f6.params.toList ++ Rows.askOnceSpec.plain.varTypes Try.prog) (ds ++ gs)).all (· ≤ reachBytes) = true := hsz0
  clear hsz0
  have hval : ∀ (j : Nat) t v, Try.f6.params[j]? = some t → args[j]? = some v → Value.okWide Try.prog W .any base t v := hval0
  have hW' := hW
  obtain ⟨p, q, hA0, hV, rfl, hfz, hnd⟩ := hW
  have hA : DataW.TrodAll enc Try.prog W 0 (fun _ => true) true Try.f6.params.toList args.toList ds p := hA0
  rw [Try.params6] at hA hval hsz
  obtain ⟨v0, vs0, d0, ds0, p0, q0, hargs, rfl, rfl, h0, r0⟩ := trodAll_cons hA
  obtain ⟨v1, vs1, d1, ds1, p1, q1, rfl, rfl, rfl, h1, r1⟩ := trodAll_cons r0
  obtain ⟨v2, vs2, d2, ds2, p2, q2, rfl, rfl, rfl, h2, r2⟩ := trodAll_cons r1
  obtain ⟨rfl, rfl, rfl⟩ := trodAll_nil r2
  obtain rfl : args = #[v0, v1, v2] := by cases args; simp_all
  obtain ⟨rfl, rfl⟩ := trodVars_none hV
  have k0 := h0
  have lt0 : ∀ x ∈ p0, x.block < W.heap.size := by obtain ⟨m, hm⟩ := k0; exact DataW.trod_lt m _ _ _ hm
  obtain ⟨a0, len0, cap0, x0, g0, rfl, w0, rg0, rx0⟩ := open_rowInt (P := Try.prog) (sh := wtK) (n := 9) (e := 3) (j := 0) Try.underlying33 (by kernel_rfl) rfl rfl (by kernel_rfl) (by kernel_rfl) Try.underlying31 Try.underlying3 (by kernel_rfl) (by kernel_rfl) (by decide) (of_decide_eq_true (by kernel_rfl)) (hval 0 33 v0 rfl rfl) h0 hsz rfl rfl
  have k1 := h1
  have lt1 : ∀ x ∈ p1, x.block < W.heap.size := by obtain ⟨m, hm⟩ := k1; exact DataW.trod_lt m _ _ _ hm
  obtain ⟨cs1, rfl, rg1⟩ := open_flatR (P := Try.prog) (sh := asK) (n := 9) Try.underlying38 (by kernel_rfl) (hval 1 38 v1 rfl rfl) h1
  have k2 := h2
  have lt2 : ∀ x ∈ p2, x.block < W.heap.size := by obtain ⟨m, hm⟩ := k2; exact DataW.trod_lt m _ _ _ hm
  obtain ⟨cs2, rfl, rg2⟩ := open_flatR (P := Try.prog) (sh := msK) (n := 9) Try.underlying40 (by kernel_rfl) (hval 2 40 v2 rfl rfl) h2
  clear hA0 hval0
  refine (walk W len0 cap0 g0 x0 w0 rg0 rx0 cs1 rg1 cs2 rg2).mono fun e W' ⟨he, bel⟩ => ?_
  subst he
  exact ⟨_, rfl, _, _, _, [], _, [], hW', trodAll_mk1 (shut_bool Try.underlying4 _), (trodAll_cons_mk (Below.trod laidOut (by kernel_rfl) (of_decide_eq_true (by kernel_rfl)) k0 bel lt0) (trodAll_cons_mk (Below.trod laidOut (by kernel_rfl) (of_decide_eq_true (by kernel_rfl)) k1 bel lt1) (trodAll_cons_mk (Below.trod laidOut (by kernel_rfl) (of_decide_eq_true (by kernel_rfl)) k2 bel lt2) trodAll_mk0))), rfl, bel.frame _, fun h => by cases h⟩

theorem over : Rows.askOnceRow.holds Try.pinned (OpenSpec.ofChange Rows.askOnceSpec) :=
  OpenClaim.holds_of_wide 6 Try.f6 rfl rfl rfl rfl rfl rfl rfl ⟨rfl, rfl, rfl, rfl, rfl⟩ rfl rfl rfl rfl rfl (by kernel_rfl) Try.func6 (by kernel_rfl)
    (of_decide_eq_true (by kernel_rfl)) (by unfold Func.isWrapper; first | (rw [if_pos (by decide +kernel)]; kernel_rfl) | (rw [if_neg (by decide +kernel)]; exact ⟨rfl, rfl⟩))
    (fun os started H enc _ => lifted os started H enc)

/-- ████ THE STATEMENT ████ -/
theorem proved : Rows.AskOnceSaid := over
#print axioms proved
end Go.Proofs.Ytbmbnbhedalcnaa.askOnce
