/- Check, Begin and Hear of bids answer just what the document says, errors too. -/
import Derived.Test.YtbmbnbhedalcnabRows
import Derived.Test.YtbmbnbhedalcnabQk
import Derived.Test.YtbmbnbhedalcnabZw
import Derived.WalkKit
import Derived.ProofKit
import Derived.OpenShut
import Derived.ShutString
import Derived.ChangeOld
import Derived.Below
import Derived.SizedLaws
namespace Go.Proofs.Ytbmbnbhedalcnab.bidTells
open Go.ChangeShapes Go.WideShapes Go.ChangeAt Go.RowKit
open Go.ChangeMaps (open_string shut_string)

theorem own : ownKnob Try.prog.godebug = none := by kernel_rfl
theorem laidOut : laidOutB Try.prog = true := by kernel_rfl

abbrev biK : List LK := [.kInt .i64, .kInt .i64, .kStr, .kStr, .kInt .i64, .kInt .i64, .kStr, .kInt .u64]
abbrev bO (b : Bool) : Out := .done .ret ⟨[some (.bool b)], []⟩
def bB (m : Nat) (g : Nat → List Value) (need no tm : Int) (ow : ByteArray) : BR := ⟨x0_begin m g need no tm ow, x1_begin m g need no tm ow, x2_begin m g need no tm ow, x3_begin m g need no tm ow, x4_begin m g need no tm ow, x5_begin m g need no tm ow, x6_begin m g need no tm ow, x7_begin m g need no tm ow, n8_begin m g need no tm ow, g8_begin m g need no tm ow, x9_begin m g need no tm ow⟩
def rB (m : Nat) (g : Nat → List Value) (need no tm : Int) (ow : ByteArray) : BR := ⟨x0_rbb m g need no tm ow, x1_rbb m g need no tm ow, x2_rbb m g need no tm ow, x3_rbb m g need no tm ow, x4_rbb m g need no tm ow, x5_rbb m g need no tm ow, x6_rbb m g need no tm ow, x7_rbb m g need no tm ow, n8_rbb m g need no tm ow, g8_rbb m g need no tm ow, x9_rbb m g need no tm ow⟩
theorem rB_eq (m : Nat) (g : Nat → List Value) (need no tm : Int) (ow : ByteArray) : rB m g need no tm ow = bB m g need no tm ow := by
  have e : x_rcbid m (fun j => g j) need tm 1 ow { data := { toList := [] } } 0 0 { data := { toList := [] } } 0 = x_cbid m g need tm 1 ow { data := { toList := [] } } 0 0 { data := { toList := [] } } 0 := rcbid_eq (by decide)
  unfold rB bB
  unfold x0_rbb x1_rbb x2_rbb x3_rbb x4_rbb x5_rbb x6_rbb x7_rbb n8_rbb g8_rbb x9_rbb x0_begin x1_begin x2_begin x3_begin x4_begin x5_begin x6_begin x7_begin n8_begin g8_begin x9_begin
  rw [e]
  by_cases h : no < 0 ∨ no > 30
  · have q : x_bchk tm 1 ow { data := { toList := [] } } 0 0 { data := { toList := [] } } 0 m (fun j => g j) need no = 3 := bchk_out h
    rw [q]
    by_cases c1 : no < 0
    · rw [decide_eq_true c1]; rfl
    · rw [decide_eq_false c1, decide_eq_true (show no > 30 by omega)]; rfl
  · have q : x_bchk tm 1 ow { data := { toList := [] } } 0 0 { data := { toList := [] } } 0 m (fun j => g j) need no = x_cbid m g need tm 1 ow { data := { toList := [] } } 0 0 { data := { toList := [] } } 0 := bchk_in h
    rw [q, decide_eq_false (show ¬ no < 0 by omega), decide_eq_false (show ¬ no > 30 by omega)]
    cases x_cbid m g need tm 1 ow { data := { toList := [] } } 0 0 { data := { toList := [] } } 0 != 0 <;> rfl
theorem bB_le (m : Nat) (g : Nat → List Value) (need no tm : Int) (ow : ByteArray) : (bB m g need no tm ow).n8 ≤ m := by
  show n8_begin m g need no tm ow ≤ m
  unfold n8_begin
  cases x_bchk tm 1 ow { data := { toList := [] } } 0 0 { data := { toList := [] } } 0 m (fun j => g j) need no != 0
  · exact Nat.le_refl _
  · exact Nat.zero_le _
theorem bR_le (m : Nat) (g : Nat → List Value) (need no a p : Int) (o v : ByteArray) (t w : Int) (s : ByteArray) (hd k bd n x y : Int) (z : ByteArray) : (bR m g need no a p o v t w s hd k bd n x y z).n8 ≤ m := by
  rw [bR_eq]
  unfold bV
  cases x_bchk a p o v t w s hd m g need no != 0 <;> cases x_cvote k bd n x y z != 0 <;> cases x_wait a p hd m no k bd n x y <;> cases x0_enough m g need (heardN hd n) <;> cases p == 2 <;> first | exact Nat.zero_le _ | exact Nat.le_refl _
abbrev eqR (a b : BR) : Bool := bif true then decide (a.a = b.a ∧ a.p = b.p ∧ a.o = b.o ∧ a.v = b.v ∧ a.t = b.t ∧ a.w = b.w ∧ a.s = b.s ∧ a.hd = b.hd) else !decide (a.a = b.a ∧ a.p = b.p ∧ a.o = b.o ∧ a.v = b.v ∧ a.t = b.t ∧ a.w = b.w ∧ a.s = b.s ∧ a.hd = b.hd)
theorem eqR_rfl (a : BR) : eqR a a = true := decide_eq_true ⟨rfl, rfl, rfl, rfl, rfl, rfl, rfl, rfl⟩
theorem vEq_refl (g : Nat → List Value) (j : Nat) : vEq g g j = true := by unfold vEq; simp
theorem sameN_refl (g : Nat → List Value) : ∀ n, sameN g g n = true
  | 0 => rfl
  | n + 1 => by show (sameN g g n && vEq g g n) = true; rw [sameN_refl g n, vEq_refl]; rfl
abbrev sameO (a b : BR) (o : Out) : Out := .ask (a.n8 + 0 ≤ a.n8 ∧ a.n8 ≤ 140737488355328) (.ask (b.n8 + 0 ≤ b.n8 ∧ b.n8 ≤ 140737488355328) (tst (bif Nat.beq a.n8 b.n8 then sameN a.g8 b.g8 a.n8 else false) o (bO false)))
abbrev mO (m : Nat) (o : Out) : Out := .ask (m ≤ m ∧ m ≤ 140737488355328) o
abbrev tellO (m : Nat) (hd a b : Int) (r c e : BR) : Out := mO m (mO m (mO m (.ask ((Lit.int .u64 hd).wf = true) (mO m (mO m (mO m (tst (a == b) (tst (eqR r r) (sameO r r (tst (r.e == r.e) (tst (eqR c e) (sameO c e (bO (c.e == e.e))) (bO false)) (bO false))) (bO false)) (bO false))))))))
theorem run_tells (m : Nat) (g : Nat → List Value) (need no a p : Int) (o v : ByteArray) (t w : Int) (s : ByteArray) (hd k bd n x y : Int) (z : ByteArray) : evV K35 noL Try.f4 [.agg ⟨[.slice (some ⟨0, 0, some 0⟩) m m, .int .i64 need]⟩, .int .i64 no, .agg ⟨[.int .i64 a, .int .i64 p, .string o, .string v, .int .i64 t, .int .i64 w, .string s, .int .u64 hd]⟩, .agg ⟨[.int .i64 k, .int .i64 bd, .int .i64 n, .int .i64 x, .int .i64 y, .string z]⟩] [.recs wtK m g] =
    tellO m hd (x_cbid m g need a p o v t w s hd) (x_rcbid m g need a p o v t w s hd) (bR m g need no a p o v t w s hd k bd n x y z) (bB m g need no a o) (rB m g need no a o) := by kernel_rfl
theorem law_sat (len0 : Nat) (g0 : Nat → List Value) (x0 x1 : Int) (cs2 cs3 : List Value) (_r0 : ∀ j, j < len0 → rngs wtK (g0 j)) (_r1 : (Lit.int .i64 x0).wf = true) (_r2 : (Lit.int .i64 x1).wf = true) (r3 : rngs biK cs2) (_r4 : rngs vtK cs3) : Bnd [.rows wtK len0 g0, .val (.int .i64 x0), .val (.int .i64 x1), .val (.agg ⟨norm biK cs2⟩), .val (.agg ⟨norm vtK cs3⟩)] → (evV K35 noL Try.f4 (regr [.agg [.rows wtK, .val], .one .val, .one .val, .one .val] (canonA 0 [.rows wtK len0 g0, .val (.int .i64 x0), .val (.int .i64 x1), .val (.agg ⟨norm biK cs2⟩), .val (.agg ⟨norm vtK cs3⟩)])) (canonH [.rows wtK len0 g0, .val (.int .i64 x0), .val (.int .i64 x1), .val (.agg ⟨norm biK cs2⟩), .val (.agg ⟨norm vtK cs3⟩)])).sat fun _ S => S.slots = [some (.bool true)] := fun hb => by
  have hbm : len0 ≤ 140737488355328 := hb.1
  have big : ∀ (a p : Int) (o v : ByteArray) (t w : Int) (s : ByteArray) (hd k bd n x y : Int) (z : ByteArray), (Lit.int .u64 hd).wf = true → (evV K35 noL Try.f4 [.agg ⟨[.slice (some ⟨0, 0, some 0⟩) len0 len0, .int .i64 x0]⟩, .int .i64 x1, .agg ⟨[.int .i64 a, .int .i64 p, .string o, .string v, .int .i64 t, .int .i64 w, .string s, .int .u64 hd]⟩, .agg ⟨[.int .i64 k, .int .i64 bd, .int .i64 n, .int .i64 x, .int .i64 y, .string z]⟩] [.recs wtK len0 g0]).sat fun _ S => S.slots = [some (.bool true)] := fun a p o v t w s hd k bd n x y z hw => by
    rw [run_tells, rB_eq, rcbid_eq hw]
    have yes : ∀ {c : Bool} {q r : Out} {Φ : Lf}, c = true → q.sat Φ → (tst c q r).sat Φ := fun h1 h2 => by subst h1; exact h2
    have fin : ∀ {b : Bool}, b = true → (bO b).sat fun _ S => S.slots = [some (.bool true)] := fun h => by subst h; rfl
    have l1 := bR_le len0 g0 x0 x1 a p o v t w s hd k bd n x y z
    have l2 := bB_le len0 g0 x0 x1 a o
    generalize bR len0 g0 x0 x1 a p o v t w s hd k bd n x y z = r at l1 ⊢
    generalize bB len0 g0 x0 x1 a o = c at l2 ⊢
    have mm : len0 ≤ len0 ∧ len0 ≤ 140737488355328 := ⟨Nat.le_refl _, hbm⟩
    have same : ∀ (a : BR) (o : Out), a.n8 ≤ len0 → o.sat (fun _ S => S.slots = [some (.bool true)]) → (sameO a a o).sat fun _ S => S.slots = [some (.bool true)] := fun a o hl ho =>
      sat_ask ⟨Nat.le_refl _, by omega⟩ (sat_ask ⟨Nat.le_refl _, by omega⟩ (yes (by rw [Nat.beq_refl, sameN_refl]; rfl) ho))
    exact sat_ask mm (sat_ask mm (sat_ask mm (sat_ask hw (sat_ask mm (sat_ask mm (sat_ask mm (yes (beq_self_eq_true _) (yes (eqR_rfl r) (same r _ l1 (yes (beq_self_eq_true _) (yes (eqR_rfl c) (same c _ l2 (fin (beq_self_eq_true _))))))))))))))
  exact big (intV (hdV cs2)) (intV (hdV (tlV cs2))) (strV (hdV (tlV (tlV cs2)))) (strV (hdV (tlV (tlV (tlV cs2))))) (intV (hdV (tlV (tlV (tlV (tlV cs2)))))) (intV (hdV (tlV (tlV (tlV (tlV (tlV cs2))))))) (strV (hdV (tlV (tlV (tlV (tlV (tlV (tlV cs2)))))))) (intV (hdV (tlV (tlV (tlV (tlV (tlV (tlV (tlV cs2))))))))) (intV (hdV cs3)) (intV (hdV (tlV cs3))) (intV (hdV (tlV (tlV cs3)))) (intV (hdV (tlV (tlV (tlV cs3))))) (intV (hdV (tlV (tlV (tlV (tlV cs3)))))) (strV (hdV (tlV (tlV (tlV (tlV (tlV cs3))))))) r3.2.2.2.2.2.2.2.1

theorem K35_P : K35.P = Try.prog := rfl
theorem walk (W : World) {a0 : Option Addr} (len0 cap0 : Nat) (g0 : Nat → List Value) (x0 : Int) (w0 : ArgOk W (.rows wtK len0 g0) (.slice a0 len0 cap0)) (rg0 : ∀ j, j < len0 → rngs wtK (g0 j)) (rx0 : (Lit.int .i64 x0).wf = true) (x1 : Int) (rg1 : (Lit.int .i64 x1).wf = true) (cs2 : List Value) (rg2 : rngs biK cs2) (cs3 : List Value) (rg3 : rngs vtK cs3) : Calls Try.prog 4 #[.agg ⟨[.slice a0 len0 cap0, .int .i64 x0]⟩, .int .i64 x1, .agg ⟨norm biK cs2⟩, .agg ⟨norm vtK cs3⟩] W fun e w' => e = .returned (.bool true) ∧ Below W.heap.size W w' := by
  rewrite [← K35_P]
  refine law_ok (W := W) K35_ok (L := noL) (f := 4) (fn := Try.f4) Try.func4 (no_loops rfl) (ks := [.agg [.rows wtK, .val], .one .val, .one .val, .one .val]) (cas := [.rows wtK len0 g0, .val (.int .i64 x0), .val (.int .i64 x1), .val (.agg ⟨norm biK cs2⟩), .val (.agg ⟨norm vtK cs3⟩)]) (us := [.agg ⟨[.slice a0 len0 cap0, .int .i64 x0]⟩, .int .i64 x1, .agg ⟨norm biK cs2⟩, .agg ⟨norm vtK cs3⟩]) (ful := [.slice a0 len0 cap0, .int .i64 x0, .int .i64 x1, .agg ⟨norm biK cs2⟩, .agg ⟨norm vtK cs3⟩]) (r := .bool true) rfl rfl rfl ?_ (@law_sat len0 g0 x0 x1 cs2 cs3 rg0 rx0 rg1 rg2 rg3)
  intro i c u hc hu
  match i, hc, hu with
  | 0, hc, hu => cases hc; cases hu; exact w0
  | 1, hc, hu => cases hc; cases hu; exact ⟨rfl, rfl⟩
  | 2, hc, hu => cases hc; cases hu; exact ⟨rfl, rfl⟩
  | 3, hc, hu => cases hc; cases hu; exact ⟨rfl, rfl⟩
  | 4, hc, hu => cases hc; cases hu; exact ⟨rfl, rfl⟩
  | i + 5, hc, hu => simp at hc

set_option maxRecDepth 100000 in
theorem lifted (os : Os) (started : os.Started) (H : Type) (enc : TypeId × Value → H) :
    ReturnsInHanded {} Try.checked os 4 .any (Rows.bidTellsSpec.pre6 enc Try.prog Try.f4 Rows.bidTellsRow.domain false) (Rows.bidTellsSpec.post enc Try.prog Try.f4 false true false false) := by
  refine returnsInHanded_of_change_sized (C := Try.checked) own started (by kernel_rfl) Try.func4
    (ChangeSpec.witness6 (enc := enc) (C := Try.checked) false ⟨#[], #[.agg ⟨[.slice none 0 0, .int .i64 0]⟩, .int .i64 0, .agg ⟨norm biK []⟩, .agg ⟨norm vtK []⟩], []⟩ 8 (by kernel_rfl) (by kernel_rfl) (by kernel_rfl) (by kernel_rfl)) ?_
  intro W base args ds gs before hval0 hW hcnd hsz0 _
  have hsz : (DataW.weightsEach Try.prog (Try.f4.params.toList ++ Rows.bidTellsSpec.plain.varTypes Try.prog) (ds ++ gs)).all (· ≤ reachBytes) = true := hsz0
  clear hsz0
  have hval : ∀ (j : Nat) t v, Try.f4.params[j]? = some t → args[j]? = some v → Value.okWide Try.prog W .any base t v := hval0
  have hW' := hW
  obtain ⟨p, q, hA0, hV, rfl, hfz, hnd⟩ := hW
  have hA : DataW.TrodAll enc Try.prog W 0 (fun _ => true) true Try.f4.params.toList args.toList ds p := hA0
  rw [Try.params4] at hA hval hsz
  obtain ⟨v0, vs0, d0, ds0, p0, q0, hargs, rfl, rfl, h0, r0⟩ := trodAll_cons hA
  obtain ⟨v1, vs1, d1, ds1, p1, q1, rfl, rfl, rfl, h1, r1⟩ := trodAll_cons r0
  obtain ⟨v2, vs2, d2, ds2, p2, q2, rfl, rfl, rfl, h2, r2⟩ := trodAll_cons r1
  obtain ⟨v3, vs3, d3, ds3, p3, q3, rfl, rfl, rfl, h3, r3⟩ := trodAll_cons r2
  obtain ⟨rfl, rfl, rfl⟩ := trodAll_nil r3
  obtain rfl : args = #[v0, v1, v2, v3] := by cases args; simp_all
  obtain ⟨rfl, rfl⟩ := trodVars_none hV
  have k0 := h0
  have lt0 : ∀ x ∈ p0, x.block < W.heap.size := by obtain ⟨m, hm⟩ := k0; exact DataW.trod_lt m _ _ _ hm
  obtain ⟨a0, len0, cap0, x0, g0, rfl, w0, rg0, rx0⟩ := open_rowInt (P := Try.prog) (sh := wtK) (n := 9) (e := 3) (j := 0) Try.underlying41 (by kernel_rfl) rfl rfl (by kernel_rfl) (by kernel_rfl) Try.underlying39 Try.underlying3 (by kernel_rfl) (by kernel_rfl) (by decide) (of_decide_eq_true (by kernel_rfl)) (hval 0 41 v0 rfl rfl) h0 hsz rfl rfl
  obtain ⟨x1, rfl, rfl, rfl, w1⟩ := open_int Try.underlying3 (hval 1 3 v1 rfl rfl) h1
  have k2 := h2
  have lt2 : ∀ x ∈ p2, x.block < W.heap.size := by obtain ⟨m, hm⟩ := k2; exact DataW.trod_lt m _ _ _ hm
  obtain ⟨cs2, rfl, rg2⟩ := open_flatR (P := Try.prog) (sh := biK) (n := 9) Try.underlying44 (by kernel_rfl) (hval 2 44 v2 rfl rfl) h2
  have k3 := h3
  have lt3 : ∀ x ∈ p3, x.block < W.heap.size := by obtain ⟨m, hm⟩ := k3; exact DataW.trod_lt m _ _ _ hm
  obtain ⟨cs3, rfl, rg3⟩ := open_flatR (P := Try.prog) (sh := vtK) (n := 9) Try.underlying29 (by kernel_rfl) (hval 3 29 v3 rfl rfl) h3
  clear hA0 hval0
  refine (walk W len0 cap0 g0 x0 w0 rg0 rx0 x1 w1 cs2 rg2 cs3 rg3).mono fun e W' ⟨he, bel⟩ => ?_
  subst he
  exact ⟨_, rfl, _, _, _, [], _, [], hW', trodAll_mk1 (shut_bool Try.underlying4 _), (trodAll_cons_mk (Below.trod laidOut (by kernel_rfl) (of_decide_eq_true (by kernel_rfl)) k0 bel lt0) (trodAll_cons_mk (shut_int Try.underlying3 w1) (trodAll_cons_mk (Below.trod laidOut (by kernel_rfl) (of_decide_eq_true (by kernel_rfl)) k2 bel lt2) (trodAll_cons_mk (Below.trod laidOut (by kernel_rfl) (of_decide_eq_true (by kernel_rfl)) k3 bel lt3) trodAll_mk0)))), rfl, bel.frame _, fun h => by cases h⟩

theorem over : Rows.bidTellsRow.holds Try.pinned (OpenSpec.ofChange Rows.bidTellsSpec) :=
  OpenClaim.holds_of_wide 4 Try.f4 rfl rfl rfl rfl rfl rfl rfl ⟨rfl, rfl, rfl, rfl, rfl⟩ rfl rfl rfl rfl rfl (by kernel_rfl) Try.func4 (by kernel_rfl)
    (of_decide_eq_true (by kernel_rfl)) (by unfold Func.isWrapper; first | (rw [if_pos (by decide +kernel)]; kernel_rfl) | (rw [if_neg (by decide +kernel)]; exact ⟨rfl, rfl⟩))
    (fun os started H enc _ => lifted os started H enc)

/-- ████ THE STATEMENT ████ -/
theorem proved : Rows.BidTellsSaid := over
#print axioms proved
end Go.Proofs.Ytbmbnbhedalcnab.bidTells
