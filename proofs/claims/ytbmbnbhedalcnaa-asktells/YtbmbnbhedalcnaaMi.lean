/- What becomes of an operation by a message: the cases. -/
import Derived.Test.YtbmbnbhedalcnaaMh
import Derived.Test.YtbmbnbhedalcnaaEa
namespace Go.Proofs.Ytbmbnbhedalcnaa
open Go.RowKit
set_option linter.unusedSimpArgs false
abbrev heardN (hd n : Int) : Int := IntKind.wrap .u64 (BitVec.toNat (BitVec.ofInt (IntKind.bits .u64) hd ||| BitVec.ofInt (IntKind.bits .u64) (shlV .u64 1 n)))
abbrev bitAt (hd n : Int) : Int := IntKind.wrap .u64 (BitVec.toNat (BitVec.ofInt (IntKind.bits .u64) (shrV .u64 hd n) &&& BitVec.ofInt (IntKind.bits .u64) 1))
abbrev zS : ByteArray := { data := { toList := [] } }
structure HR where
  op : Int
  k : Int
  p : Int
  d : ByteArray
  t : Int
  w : Int
  s : ByteArray
  hd : Int
  n8 : Nat
  g8 : Nat → List Value
  e : Int
abbrev nil8 : Nat → List Value := fun _ => []
def hR (m : Nat) (g : Nat → List Value) (need op k p : Int) (d : ByteArray) (t w : Int) (s : ByteArray) (hd mk mo n x y : Int) (z : ByteArray) : HR :=
  ⟨x0_hear m g need op k p d t w s hd mk mo n x y z, x1_hear m g need op k p d t w s hd mk mo n x y z, x2_hear m g need op k p d t w s hd mk mo n x y z, x3_hear m g need op k p d t w s hd mk mo n x y z, x4_hear m g need op k p d t w s hd mk mo n x y z, x5_hear m g need op k p d t w s hd mk mo n x y z, x6_hear m g need op k p d t w s hd mk mo n x y z, x7_hear m g need op k p d t w s hd mk mo n x y z, n8_hear m g need op k p d t w s hd mk mo n x y z, g8_hear m g need op k p d t w s hd mk mo n x y z, x9_hear m g need op k p d t w s hd mk mo n x y z⟩
/-- the best of an operation and a message -/
def bst (p t w : Int) (s : ByteArray) (x y : Int) (z : ByteArray) : Cp := bif p == 1 then mgV [((t, w), s), ((x, y), z)] else ((t, w), s)
def hV (m : Nat) (g : Nat → List Value) (need op k p : Int) (d : ByteArray) (t w : Int) (s : ByteArray) (hd mk mo n x y : Int) (z : ByteArray) : HR :=
  bif x_achk m g need op k p d t w s hd != 0 then ⟨0, 0, 0, zS, 0, 0, zS, 0, 0, nil8, x_achk m g need op k p d t w s hd⟩ else
  bif x_wchk mk mo n x y z != 0 then ⟨0, 0, 0, zS, 0, 0, zS, 0, 0, nil8, x_wchk mk mo n x y z⟩ else
  bif !x_wait op p hd m mk mo n then ⟨op, k, p, d, t, w, s, hd, 0, nil8, 0⟩ else
  bif !x0_enough m g need (heardN hd n) then ⟨op, k, p, d, (bst p t w s x y z).1.1, (bst p t w s x y z).1.2, (bst p t w s x y z).2, heardN hd n, 0, nil8, 0⟩ else
  bif p == 2 then ⟨op, k, 3, d, (bst p t w s x y z).1.1, (bst p t w s x y z).1.2, (bst p t w s x y z).2, heardN hd n, 0, nil8, 0⟩ else
  bif k == 2 then
    (bif nxE (bst p t w s x y z).1.1 (bst p t w s x y z).1.2 op != 0 then ⟨op, k, p, d, t, w, s, hd, 0, nil8, 0⟩ else
      ⟨op, k, 2, d, nxT (bst p t w s x y z).1.1 (bst p t w s x y z).1.2 op, nxW (bst p t w s x y z).1.1 (bst p t w s x y z).1.2 op, d, 0, m, toC 3 op (nxT (bst p t w s x y z).1.1 (bst p t w s x y z).1.2 op) (nxW (bst p t w s x y z).1.1 (bst p t w s x y z).1.2 op) d, 0⟩)
  else ⟨op, k, 2, d, (bst p t w s x y z).1.1, (bst p t w s x y z).1.2, (bst p t w s x y z).2, 0, m, toC 3 op (bst p t w s x y z).1.1 (bst p t w s x y z).1.2 (bst p t w s x y z).2, 0⟩
section
variable {m : Nat} {g : Nat → List Value} {need op k p : Int} {d : ByteArray} {t w : Int} {s : ByteArray} {hd mk mo n x y : Int} {z : ByteArray}
theorem hR_eq : hR m g need op k p d t w s hd mk mo n x y z = hV m g need op k p d t w s hd mk mo n x y z := by
  have eta : (fun j => g j) = g := rfl
  unfold hR hV bst
  simp only [x0_hear, x1_hear, x2_hear, x3_hear, x4_hear, x5_hear, x6_hear, x7_hear, n8_hear, g8_hear, x9_hear, eta]
  cases x_achk m g need op k p d t w s hd != 0
  · cases x_wchk mk mo n x y z != 0
    · cases x_wait op p hd m mk mo n
      · rfl
      · cases h3 : (p == 1)
        · simp only [Bool.not_true, cond_true, cond_false]
          cases x0_enough m g need (heardN hd n)
          · rfl
          · cases p == 2
            · cases k == 2
              · rfl
              · simp only [Bool.not_true, cond_true, cond_false]
                cases nxE t w op != 0 <;> rfl
            · rfl
        · simp only [Bool.not_true, cond_true, cond_false]
          cases x0_enough m g need (heardN hd n)
          · rfl
          · cases p == 2
            · cases k == 2
              · rfl
              · simp only [Bool.not_true, cond_true, cond_false]
                cases nxE (mgV [((t, w), s), ((x, y), z)]).1.1 (mgV [((t, w), s), ((x, y), z)]).1.2 op != 0 <;> rfl
            · rfl
    · rfl
  · rfl
theorem cz1 {b : Bool} {c r : Int} (hc : c ≠ 0) : ((bif b then c else r) = 0) ↔ (b = false ∧ r = 0) := by
  cases b
  · simp
  · simpa using hc
theorem cz2 {q r : Int} : ((bif q != 0 then q else r) = 0) ↔ (q = 0 ∧ r = 0) := by
  by_cases h : q = 0
  · subst h; simp
  · have : (q != 0) = true := by simpa using h
    rw [this]; simp [h]
theorem achk_iff : x_achk m g need op k p d t w s hd = 0 ↔ (qE (wsOf m g) need = 0 ∧ decide (op < 0) = false ∧ decide (op ≥ 31) = false ∧ (!x_akind k) = false ∧ (!x_aphase p) = false ∧ decide ((ByteArray.size d : Int) > 64) = false ∧ ((k == 1) = true → (!ByteArray.toList d == []) = false) ∧ cck ((t, w), s) = 0 ∧ shrV .u64 hd m = 0) := by
  unfold x_achk
  have eta : (wsOf m fun j => g j) = wsOf m g := rfl
  rw [eta, cz2, cz1 (by decide), cz1 (by decide), cz1 (by decide), cz1 (by decide), cz1 (by decide)]
  have fin : ((bif cck ((t, w), s) != 0 then cck ((t, w), s) else bif shrV .u64 hd m != 0 then (3 : Int) else 0) = 0) ↔ (cck ((t, w), s) = 0 ∧ shrV .u64 hd m = 0) := by
    rw [cz2, cz1 (by decide)]
    simp
  cases h : (k == 1)
  · simp only [cond_false, fin]
    constructor
    · rintro ⟨h1, h2, h3, h4, h5, h6, h7⟩
      exact ⟨h1, h2, h3, h4, h5, h6, fun h => (nomatch h), h7⟩
    · rintro ⟨h1, h2, h3, h4, h5, h6, -, h7⟩
      exact ⟨h1, h2, h3, h4, h5, h6, h7⟩
  · simp only [cond_true]
    rw [cz1 (by decide), fin]
    constructor
    · rintro ⟨h1, h2, h3, h4, h5, h6, h7, h8⟩
      exact ⟨h1, h2, h3, h4, h5, h6, fun _ => h7, h8⟩
    · rintro ⟨h1, h2, h3, h4, h5, h6, h7, h8⟩
      exact ⟨h1, h2, h3, h4, h5, h6, h7 trivial, h8⟩
theorem wchk_c (h : x_wchk mk mo n x y z = 0) : cck ((x, y), z) = 0 ∧ 0 ≤ n := by
  refine ⟨?_, wchk_n (by simpa using h)⟩
  unfold x_wchk at h
  rw [cz1 (by decide), cz1 (by decide), cz1 (by decide), cz1 (by decide), cz1 (by decide), cz2] at h
  exact h.2.2.2.2.2.1
theorem wait_t (h : x_wait op p hd m mk mo n = true) : (p = 1 ∨ p = 2) ∧ mo = op ∧ n < m ∧ bitAt hd n = 0 := by
  unfold x_wait at h
  have key : ∀ {a b c e : Bool}, (bif a then (bif b then (bif c then e else false) else false) else false) = true → a = true ∧ b = true ∧ c = true ∧ e = true := by
    intro a b c e; cases a <;> cases b <;> cases c <;> cases e <;> simp
  cases h1 : (p == 1) with
  | true =>
    rw [h1] at h
    simp only [cond_true] at h
    obtain ⟨q1, q2, q3, q4⟩ := key h
    exact ⟨.inl (eq_of_beq h1), eq_of_beq q2, of_decide_eq_true q3, eq_of_beq q4⟩
  | false =>
    rw [h1] at h
    simp only [cond_false] at h
    cases h2 : (p == 2) with
    | true =>
      rw [h2] at h
      simp only [cond_true] at h
      obtain ⟨q1, q2, q3, q4⟩ := key h
      exact ⟨.inr (eq_of_beq h2), eq_of_beq q2, of_decide_eq_true q3, eq_of_beq q4⟩
    | false => rw [h2] at h; cases h
theorem mg_two {t w : Int} {s : ByteArray} {x y : Int} {z : ByteArray} (h1 : cck ((t, w), s) = 0) (h2 : cck ((x, y), z) = 0) : mgV [((t, w), s), ((x, y), z)] = if slt (t, w) (x, y) = true then ((x, y), z) else ((t, w), s) := by
  have hc : clE [((t, w), s), ((x, y), z)] = 0 := clE_of (by show 2 ≤ 12; decide) fun c hc => by
    rcases List.mem_cons.1 hc with rfl | hc
    · exact h1
    · rw [List.mem_singleton.1 hc]; exact h2
  unfold mgV
  rw [if_pos hc]
  rfl
theorem shl_nat {k : Nat} (h : k < 64) : shlV .u64 1 (k : Int) = ((2 ^ k : Nat) : Int) := by
  unfold shlV
  rw [show min ((k : Int).toNat) (IntKind.bits .u64) = k from by rw [Int.toNat_natCast]; exact Nat.min_eq_left (show k ≤ 64 by omega)]
  have hlt : 2 ^ k < 18446744073709551616 := Nat.pow_lt_pow_right (a := 2) (n := 64) (by decide) h
  rw [Int.one_mul, show (2 : Int) ^ k = ((2 ^ k : Nat) : Int) from by rw [Int.natCast_pow]; rfl]
  exact wrap_nat hlt
theorem heard_nat {h n : Nat} (hh : h < 18446744073709551616) (hn : n < 64) : heardN h n = ((h ||| 2 ^ n : Nat) : Int) := by
  have hlt : 2 ^ n < 18446744073709551616 := Nat.pow_lt_pow_right (a := 2) (n := 64) (by decide) hn
  show orI (h : Int) (shlV .u64 1 n) = _
  rw [shl_nat hn, orI_nat hh hlt]
/-- who was heard is heard -/
theorem heard_bit {h n : Nat} (hh : h < 18446744073709551616) (hn : n < 64) : bitAt (heardN h n) n ≠ 0 := by
  have hlt : 2 ^ n < 18446744073709551616 := Nat.pow_lt_pow_right (a := 2) (n := 64) (by decide) hn
  have hv : (h ||| 2 ^ n) < 18446744073709551616 := Nat.or_lt_two_pow (n := 64) hh hlt
  rw [heard_nat hh hn]
  show andI (shrV .u64 ((h ||| 2 ^ n : Nat) : Int) n) ((1 : Nat) : Int) ≠ 0
  rw [shr_nat _ _ (by omega), andI_nat (Nat.lt_of_le_of_lt (Nat.div_le_self _ _) hv) (by decide), Nat.and_one_is_mod]
  have : (h ||| 2 ^ n).testBit n = true := by rw [Nat.testBit_or, Nat.testBit_two_pow_self, Bool.or_true]
  rw [Nat.testBit_eq_decide_div_mod_eq] at this
  have := of_decide_eq_true this
  omega
theorem heard_shr {h n m : Nat} (hh : h < 18446744073709551616) (hm : m ≤ 12) (hn : n < m) (hz : shrV .u64 (h : Int) m = 0) : shrV .u64 (heardN h n) m = 0 := by
  rw [heard_nat hh (by omega), shr_nat _ _ (by omega)]
  rw [shr_nat _ _ (by omega)] at hz
  have hp : 0 < 2 ^ m := Nat.two_pow_pos m
  have h1 : h < 2 ^ m := by
    have : h / 2 ^ m = 0 := by omega
    exact (Nat.div_eq_zero_iff_lt hp).1 this
  have h2 : 2 ^ n < 2 ^ m := Nat.pow_lt_pow_right (by decide) hn
  have : (h ||| 2 ^ n) < 2 ^ m := Nat.or_lt_two_pow h1 h2
  rw [Nat.div_eq_of_lt this]
  rfl
theorem zero_shr (m : Nat) : shrV .u64 0 m = 0 := by
  unfold shrV
  rw [Int.zero_fdiv]
theorem wf_nat {h : Int} (hw : (Lit.int .u64 h).wf = true) : ∃ a : Nat, h = a ∧ a < 18446744073709551616 := by
  have hw : IntKind.u64.min ≤ h ∧ h ≤ IntKind.u64.max := by simpa [Lit.wf] using hw
  have e1 : IntKind.u64.min = 0 := by decide
  have e2 : IntKind.u64.max = 18446744073709551615 := by decide
  rw [e1, e2] at hw
  exact ⟨h.toNat, by omega, by omega⟩
end
end Go.Proofs.Ytbmbnbhedalcnaa
