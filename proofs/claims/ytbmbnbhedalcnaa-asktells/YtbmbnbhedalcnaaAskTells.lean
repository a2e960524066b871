/- Check, Begin and Hear answer just what the document says, errors too. -/
import Derived.Test.YtbmbnbhedalcnaaRows
import Derived.Test.YtbmbnbhedalcnaaOc
import Derived.Test.YtbmbnbhedalcnaaZw
import Derived.WalkKit
import Derived.ProofKit
import Derived.OpenShut
import Derived.ShutString
import Derived.ChangeOld
import Derived.Below
import Derived.SizedLaws
namespace Go.Proofs.Ytbmbnbhedalcnaa.askTells
open Go.ChangeShapes Go.WideShapes Go.ChangeAt Go.RowKit
open Go.ChangeMaps (open_string shut_string)

theorem own : ownKnob Try.prog.godebug = none := by kernel_rfl
theorem laidOut : laidOutB Try.prog = true := by kernel_rfl

abbrev asK : List LK := [.kInt .i64, .kInt .i64, .kInt .i64, .kStr, .kInt .i64, .kInt .i64, .kStr, .kInt .u64]
abbrev bO (b : Bool) : Out := .done .ret ⟨[some (.bool b)], []⟩
def hB (m : Nat) (g : Nat → List Value) (need op k : Int) (d : ByteArray) : HR := ⟨x0_begin m g need op k d, x1_begin m g need op k d, x2_begin m g need op k d, x3_begin m g need op k d, x4_begin m g need op k d, x5_begin m g need op k d, x6_begin m g need op k d, x7_begin m g need op k d, n8_begin m g need op k d, g8_begin m g need op k d, x9_begin m g need op k d⟩
def rB (m : Nat) (g : Nat → List Value) (need op k : Int) (d : ByteArray) : HR := ⟨x0_rbeg m g need op k d, x1_rbeg m g need op k d, x2_rbeg m g need op k d, x3_rbeg m g need op k d, x4_rbeg m g need op k d, x5_rbeg m g need op k d, x6_rbeg m g need op k d, x7_rbeg m g need op k d, n8_rbeg m g need op k d, g8_rbeg m g need op k d, x9_rbeg m g need op k d⟩
theorem rB_eq (m : Nat) (g : Nat → List Value) (need op k : Int) (d : ByteArray) : rB m g need op k d = hB m g need op k d := by
  obtain ⟨e0, e1, e2, e3, e4, e5, e6, e7, e8, e9, e10⟩ := rbeg_eq m g need op k d
  unfold rB hB
  rw [e0, e1, e2, e3, e4, e5, e6, e7, e8, e9, e10]
theorem hB_le (m : Nat) (g : Nat → List Value) (need op k : Int) (d : ByteArray) : (hB m g need op k d).n8 ≤ m := by
  show n8_begin m g need op k d ≤ m
  unfold n8_begin
  cases x_achk m (fun j => g j) need op k 1 d 0 0 { data := { toList := [] } } 0 != 0
  · exact Nat.le_refl _
  · exact Nat.zero_le _
theorem hR_le (m : Nat) (g : Nat → List Value) (need op k p : Int) (d : ByteArray) (t w : Int) (s : ByteArray) (hd mk mo n x y : Int) (z : ByteArray) : (hR m g need op k p d t w s hd mk mo n x y z).n8 ≤ m := by
  rw [hR_eq]
  cases h0 : (x_achk m g need op k p d t w s hd != 0) with
  | true => unfold hV; rw [h0]; exact Nat.zero_le _
  | false =>
    cases h1 : (x_wchk mk mo n x y z != 0) with
    | true => unfold hV; rw [h0, h1]; exact Nat.zero_le _
    | false =>
      rcases hV_cases (eq_of_bne h0) (eq_of_bne h1) with ⟨_, e⟩ | ⟨_, ⟨_, e⟩ | ⟨_, _, e⟩ | ⟨_, _, _, _, e⟩ | ⟨_, _, _, _, e⟩ | ⟨_, _, _, e⟩⟩ <;> rw [e]
      · exact Nat.zero_le _
      · exact Nat.zero_le _
      · exact Nat.zero_le _
      · exact Nat.zero_le _
      · exact Nat.le_refl _
      · exact Nat.le_refl _
abbrev eqR (a b : HR) : Bool := bif true then decide (a.op = b.op ∧ a.k = b.k ∧ a.p = b.p ∧ a.d = b.d ∧ a.t = b.t ∧ a.w = b.w ∧ a.s = b.s ∧ a.hd = b.hd) else !decide (a.op = b.op ∧ a.k = b.k ∧ a.p = b.p ∧ a.d = b.d ∧ a.t = b.t ∧ a.w = b.w ∧ a.s = b.s ∧ a.hd = b.hd)
theorem eqR_rfl (a : HR) : eqR a a = true := decide_eq_true ⟨rfl, rfl, rfl, rfl, rfl, rfl, rfl, rfl⟩
abbrev sameO (a b : HR) (o : Out) : Out := .ask (a.n8 + 0 ≤ a.n8 ∧ a.n8 ≤ 140737488355328) (.ask (b.n8 + 0 ≤ b.n8 ∧ b.n8 ≤ 140737488355328) (tst (bif Nat.beq a.n8 b.n8 then sameN a.g8 b.g8 a.n8 else false) o (bO false)))
abbrev mO (m : Nat) (o : Out) : Out := .ask (m ≤ m ∧ m ≤ 140737488355328) o
abbrev tellO (m : Nat) (hd a b : Int) (r c e : HR) : Out := mO m (mO m (mO m (.ask ((Lit.int .u64 hd).wf = true) (mO m (mO m (mO m (tst (a == b) (tst (eqR r r) (sameO r r (tst (r.e == r.e) (tst (eqR c e) (sameO c e (bO (c.e == e.e))) (bO false)) (bO false))) (bO false)) (bO false))))))))
theorem run_tells (m : Nat) (g : Nat → List Value) (need op k p : Int) (d : ByteArray) (t w : Int) (s : ByteArray) (hd mk mo n x y : Int) (z : ByteArray) : evV K37 noL Try.f4 [.agg ⟨[.slice (some ⟨0, 0, some 0⟩) m m, .int .i64 need]⟩, .agg ⟨[.int .i64 op, .int .i64 k, .int .i64 p, .string d, .int .i64 t, .int .i64 w, .string s, .int .u64 hd]⟩, .agg ⟨[.int .i64 mk, .int .i64 mo, .int .i64 n, .int .i64 x, .int .i64 y, .string z]⟩] [.recs wtK m g] =
    tellO m hd (x_achk m g need op k p d t w s hd) (x_rack m g need op k p d t w s hd) (hR m g need op k p d t w s hd mk mo n x y z) (hB m g need op k d) (rB m g need op k d) := by kernel_rfl
theorem law_sat (len0 : Nat) (g0 : Nat → List Value) (x0 : Int) (cs1 cs2 : List Value) (_r0 : ∀ j, j < len0 → rngs wtK (g0 j)) (_r1 : (Lit.int .i64 x0).wf = true) (r3 : rngs asK cs1) (_r4 : rngs msK cs2) : Bnd [.rows wtK len0 g0, .val (.int .i64 x0), .val (.agg ⟨norm asK cs1⟩), .val (.agg ⟨norm msK cs2⟩)] → (evV K37 noL Try.f4 (regr [.agg [.rows wtK, .val], .one .val, .one .val] (canonA 0 [.rows wtK len0 g0, .val (.int .i64 x0), .val (.agg ⟨norm asK cs1⟩), .val (.agg ⟨norm msK cs2⟩)])) (canonH [.rows wtK len0 g0, .val (.int .i64 x0), .val (.agg ⟨norm asK cs1⟩), .val (.agg ⟨norm msK cs2⟩)])).sat fun _ S => S.slots = [some (.bool true)] := fun hb => by
  have hbm : len0 ≤ 140737488355328 := hb.1
  have big : ∀ (op k p : Int) (d : ByteArray) (t w : Int) (s : ByteArray) (hd mk mo n x y : Int) (z : ByteArray), (Lit.int .u64 hd).wf = true → (evV K37 noL Try.f4 [.agg ⟨[.slice (some ⟨0, 0, some 0⟩) len0 len0, .int .i64 x0]⟩, .agg ⟨[.int .i64 op, .int .i64 k, .int .i64 p, .string d, .int .i64 t, .int .i64 w, .string s, .int .u64 hd]⟩, .agg ⟨[.int .i64 mk, .int .i64 mo, .int .i64 n, .int .i64 x, .int .i64 y, .string z]⟩] [.recs wtK len0 g0]).sat fun _ S => S.slots = [some (.bool true)] := fun op k p d t w s hd mk mo n x y z hw => by
    rw [run_tells, rB_eq, rack_eq hw]
    have yes : ∀ {c : Bool} {q r : Out} {Φ : Lf}, c = true → q.sat Φ → (tst c q r).sat Φ := fun h1 h2 => by subst h1; exact h2
    have fin : ∀ {b : Bool}, b = true → (bO b).sat fun _ S => S.slots = [some (.bool true)] := fun h => by subst h; rfl
    have l1 := hR_le len0 g0 x0 op k p d t w s hd mk mo n x y z
    have l2 := hB_le len0 g0 x0 op k d
    generalize hR len0 g0 x0 op k p d t w s hd mk mo n x y z = r at l1 ⊢
    generalize hB len0 g0 x0 op k d = c at l2 ⊢
    have mm : len0 ≤ len0 ∧ len0 ≤ 140737488355328 := ⟨Nat.le_refl _, hbm⟩
    have same : ∀ (a : HR) (o : Out), a.n8 ≤ len0 → o.sat (fun _ S => S.slots = [some (.bool true)]) → (sameO a a o).sat fun _ S => S.slots = [some (.bool true)] := fun a o hl ho =>
      sat_ask ⟨Nat.le_refl _, by omega⟩ (sat_ask ⟨Nat.le_refl _, by omega⟩ (yes (by rw [Nat.beq_refl, sameN_refl]; rfl) ho))
    exact sat_ask mm (sat_ask mm (sat_ask mm (sat_ask hw (sat_ask mm (sat_ask mm (sat_ask mm (yes (beq_self_eq_true _) (yes (eqR_rfl r) (same r _ l1 (yes (beq_self_eq_true _) (yes (eqR_rfl c) (same c _ l2 (fin (beq_self_eq_true _))))))))))))))
  exact big (intV (hdV cs1)) (intV (hdV (tlV cs1))) (intV (hdV (tlV (tlV cs1)))) (strV (hdV (tlV (tlV (tlV cs1))))) (intV (hdV (tlV (tlV (tlV (tlV cs1)))))) (intV (hdV (tlV (tlV (tlV (tlV (tlV cs1))))))) (strV (hdV (tlV (tlV (tlV (tlV (tlV (tlV cs1)))))))) (intV (hdV (tlV (tlV (tlV (tlV (tlV (tlV (tlV cs1))))))))) (intV (hdV cs2)) (intV (hdV (tlV cs2))) (intV (hdV (tlV (tlV cs2)))) (intV (hdV (tlV (tlV (tlV cs2))))) (intV (hdV (tlV (tlV (tlV (tlV cs2)))))) (strV (hdV (tlV (tlV (tlV (tlV (tlV cs2))))))) r3.2.2.2.2.2.2.2.1

theorem K37_P : K37.P = Try.prog := rfl
theorem walk (W : World) {a0 : Option Addr} (len0 cap0 : Nat) (g0 : Nat → List Value) (x0 : Int) (w0 : ArgOk W (.rows wtK len0 g0) (.slice a0 len0 cap0)) (rg0 : ∀ j, j < len0 → rngs wtK (g0 j)) (rx0 : (Lit.int .i64 x0).wf = true) (cs1 : List Value) (rg1 : rngs asK cs1) (cs2 : List Value) (rg2 : rngs msK cs2) : Calls Try.prog 4 #[.agg ⟨[.slice a0 len0 cap0, .int .i64 x0]⟩, .agg ⟨norm asK cs1⟩, .agg ⟨norm msK cs2⟩] W fun e w' => e = .returned (.bool true) ∧ Below W.heap.size W w' := by
  rewrite [← K37_P]
  refine law_ok (W := W) K37_ok (L := noL) (f := 4) (fn := Try.f4) Try.func4 (no_loops rfl) (ks := [.agg [.rows wtK, .val], .one .val, .one .val]) (cas := [.rows wtK len0 g0, .val (.int .i64 x0), .val (.agg ⟨norm asK cs1⟩), .val (.agg ⟨norm msK cs2⟩)]) (us := [.agg ⟨[.slice a0 len0 cap0, .int .i64 x0]⟩, .agg ⟨norm asK cs1⟩, .agg ⟨norm msK cs2⟩]) (ful := [.slice a0 len0 cap0, .int .i64 x0, .agg ⟨norm asK cs1⟩, .agg ⟨norm msK cs2⟩]) (r := .bool true) rfl rfl rfl ?_ (@law_sat len0 g0 x0 cs1 cs2 rg0 rx0 rg1 rg2)
  intro i c u hc hu
  match i, hc, hu with
  | 0, hc, hu => cases hc; cases hu; exact w0
  | 1, hc, hu => cases hc; cases hu; exact ⟨rfl, rfl⟩
  | 2, hc, hu => cases hc; cases hu; exact ⟨rfl, rfl⟩
  | 3, hc, hu => cases hc; cases hu; exact ⟨rfl, rfl⟩
  | i + 4, hc, hu => simp at hc

set_option maxRecDepth 100000 in
theorem lifted (os : Os) (started : os.Started) (H : Type) (enc : TypeId × Value → H) :
    ReturnsInHanded {} Try.checked os 4 .any (Rows.askTellsSpec.pre6 enc Try.prog Try.f4 Rows.askTellsRow.domain false) (Rows.askTellsSpec.post enc Try.prog Try.f4 false true false false) := by
  refine returnsInHanded_of_change_sized (C := Try.checked) own started (by kernel_rfl) Try.func4
    (ChangeSpec.witness6 (enc := enc) (C := Try.checked) false ⟨#[], #[.agg ⟨[.slice none 0 0, .int .i64 0]⟩, .agg ⟨norm asK []⟩, .agg ⟨norm msK []⟩], []⟩ 8 (by kernel_rfl) (by kernel_rfl) (by kernel_rfl) (by kernel_rfl)) ?_
  intro W base args ds gs before hval0 hW hcnd hsz0 _
  have hsz : (DataW.weightsEach Try.prog (Try.f4.params.toList ++ Rows.askTellsSpec.plain.varTypes Try.prog) (ds ++ gs)).all (· ≤ reachBytes) = true := hsz0
  clear hsz0
  have hval : ∀ (j : Nat) t v, Try.f4.params[j]? = some t → args[j]? = some v → Value.okWide Try.prog W .any base t v := hval0
  have hW' := hW
  obtain ⟨p, q, hA0, hV, rfl, hfz, hnd⟩ := hW
  have hA : DataW.TrodAll enc Try.prog W 0 (fun _ => true) true Try.f4.params.toList args.toList ds p := hA0
  rw [Try.params4] at hA hval hsz
  obtain ⟨v0, vs0, d0, ds0, p0, q0, hargs, rfl, rfl, h0, r0⟩ := trodAll_cons hA
  obtain ⟨v1, vs1, d1, ds1, p1, q1, rfl, rfl, rfl, h1, r1⟩ := trodAll_cons r0
  obtain ⟨v2, vs2, d2, ds2, p2, q2, rfl, rfl, rfl, h2, r2⟩ := trodAll_cons r1
  obtain ⟨rfl, rfl, rfl⟩ := trodAll_nil r2
  obtain rfl : args = #[v0, v1, v2] := by cases args; simp_all
  obtain ⟨rfl, rfl⟩ := trodVars_none hV
  have k0 := h0
  have lt0 : ∀ x ∈ p0, x.block < W.heap.size := by obtain ⟨m, hm⟩ := k0; exact DataW.trod_lt m _ _ _ hm
  obtain ⟨a0, len0, cap0, x0, g0, rfl, w0, rg0, rx0⟩ := open_rowInt (P := Try.prog) (sh := wtK) (n := 9) (e := 3) (j := 0) Try.underlying33 (by kernel_rfl) rfl rfl (by kernel_rfl) (by kernel_rfl) Try.underlying31 Try.underlying3 (by kernel_rfl) (by kernel_rfl) (by decide) (of_decide_eq_true (by kernel_rfl)) (hval 0 33 v0 rfl rfl) h0 hsz rfl rfl
  have k1 := h1
  have lt1 : ∀ x ∈ p1, x.block < W.heap.size := by obtain ⟨m, hm⟩ := k1; exact DataW.trod_lt m _ _ _ hm
  obtain ⟨cs1, rfl, rg1⟩ := open_flatR (P := Try.prog) (sh := asK) (n := 9) Try.underlying38 (by kernel_rfl) (hval 1 38 v1 rfl rfl) h1
  have k2 := h2
  have lt2 : ∀ x ∈ p2, x.block < W.heap.size := by obtain ⟨m, hm⟩ := k2; exact DataW.trod_lt m _ _ _ hm
  obtain ⟨cs2, rfl, rg2⟩ := open_flatR (P := Try.prog) (sh := msK) (n := 9) Try.underlying40 (by kernel_rfl) (hval 2 40 v2 rfl rfl) h2
  clear hA0 hval0
  refine (walk W len0 cap0 g0 x0 w0 rg0 rx0 cs1 rg1 cs2 rg2).mono fun e W' ⟨he, bel⟩ => ?_
  subst he
  exact ⟨_, rfl, _, _, _, [], _, [], hW', trodAll_mk1 (shut_bool Try.underlying4 _), (trodAll_cons_mk (Below.trod laidOut (by kernel_rfl) (of_decide_eq_true (by kernel_rfl)) k0 bel lt0) (trodAll_cons_mk (Below.trod laidOut (by kernel_rfl) (of_decide_eq_true (by kernel_rfl)) k1 bel lt1) (trodAll_cons_mk (Below.trod laidOut (by kernel_rfl) (of_decide_eq_true (by kernel_rfl)) k2 bel lt2) trodAll_mk0))), rfl, bel.frame _, fun h => by cases h⟩

theorem over : Rows.askTellsRow.holds Try.pinned (OpenSpec.ofChange Rows.askTellsSpec) :=
  OpenClaim.holds_of_wide 4 Try.f4 rfl rfl rfl rfl rfl rfl rfl ⟨rfl, rfl, rfl, rfl, rfl⟩ rfl rfl rfl rfl rfl (by kernel_rfl) Try.func4 (by kernel_rfl)
    (of_decide_eq_true (by kernel_rfl)) (by unfold Func.isWrapper; first | (rw [if_pos (by decide +kernel)]; kernel_rfl) | (rw [if_neg (by decide +kernel)]; exact ⟨rfl, rfl⟩))
    (fun os started H enc _ => lifted os started H enc)

/-- ████ THE STATEMENT ████ -/
theorem proved : Rows.AskTellsSaid := over
#print axioms proved
end Go.Proofs.Ytbmbnbhedalcnaa.askTells
