/- Majorities: the mathematics. -/
import Derived.Test.YtnpdpbiikejflaaEj
namespace Go.Proofs.Ytnpdpbiikejflaa
open Go.RowKit
def mjB (x s : Int) : Bool := decide (2 * pc (x.toNat &&& s.toNat) > pc x.toNat)
abbrev mA (n x s : Int) : Prop := aMj [.val (.agg ⟨[.int .i64 n, .int .u64 x]⟩), .val (.int .u64 s)]
def notI (a : Int) : Int := xorI 18446744073709551615 a
theorem not_bit {a i : Nat} (hi : i < 64) : (18446744073709551615 ^^^ a).testBit i = !a.testBit i := by
  rw [Nat.testBit_xor, show (18446744073709551615 : Nat) = 2 ^ 64 - 1 from rfl, Nat.testBit_two_pow_sub_one, decide_eq_true hi]
  simp
theorem cnt_lin3 {a b c : Nat → Bool} : ∀ {k : Nat}, (∀ i, i < k → (a i).toNat = (b i).toNat + (c i).toNat) → cnt a k = cnt b k + cnt c k
  | 0, _ => rfl
  | k + 1, h => by
    have := cnt_lin3 (k := k) fun i hi => h i (by omega)
    have := h k (by omega)
    unfold cnt
    omega
theorem cnt_mono {a b : Nat → Bool} : ∀ {k : Nat}, (∀ i, i < k → (a i).toNat ≤ (b i).toNat) → cnt a k ≤ cnt b k
  | 0, _ => Nat.le_refl _
  | k + 1, h => by
    have := cnt_mono (k := k) fun i hi => h i (by omega)
    have := h k (by omega)
    unfold cnt
    omega
theorem pc_parts (x a : Nat) : pc x = pc (x &&& a) + pc (x &&& (18446744073709551615 ^^^ a)) := cnt_lin3 fun i hi => by
  rw [Nat.testBit_and, Nat.testBit_and, not_bit hi]
  cases x.testBit i <;> cases a.testBit i <;> rfl
theorem pc_more (x a b : Nat) : pc (x &&& a) ≤ pc (x &&& (a ||| b)) := cnt_mono fun i _ => by
  rw [Nat.testBit_and, Nat.testBit_and, Nat.testBit_or]
  cases x.testBit i <;> cases a.testBit i <;> cases b.testBit i <;> decide
theorem and_self2 (x a : Nat) : x &&& (a &&& x) = x &&& a := by
  apply Nat.eq_of_testBit_eq
  intro i
  simp only [Nat.testBit_and]
  cases x.testBit i <;> cases a.testBit i <;> rfl
theorem notI_U {a : Int} (h : U a) : U (notI a) ∧ (notI a).toNat = 18446744073709551615 ^^^ a.toNat := by
  refine ⟨wrap_U _, ?_⟩
  exact xorI_toNat (x := 18446744073709551615) ⟨by decide, by decide⟩ h
theorem orI_U {x y : Int} (hx : U x) (hy : U y) : (orI x y).toNat = x.toNat ||| y.toNat := by
  obtain ⟨a, rfl, ha⟩ := hx.nat
  obtain ⟨b, rfl, hb⟩ := hy.nat
  rw [orI_nat ha hb]
  rfl
abbrev bO (b : Bool) : Out := .done .ret ⟨[some (.bool b)], []⟩
theorem cnt_two {o x y z : Nat → Bool} : ∀ {k : Nat}, (∀ i, i < k → (o i).toNat + (o i).toNat = (x i).toNat + (y i).toNat + (z i).toNat) → cnt o k + cnt o k = cnt x k + cnt y k + cnt z k
  | 0, _ => rfl
  | k + 1, h => by
    have := cnt_two (k := k) fun i hi => h i (by omega)
    have := h k (by omega)
    unfold cnt
    omega
theorem cnt_apart {p q o : Nat → Bool} : ∀ {k : Nat}, (∀ i, i < k → (p i).toNat + (q i).toNat ≤ (o i).toNat) → cnt p k + cnt q k ≤ cnt o k
  | 0, _ => Nat.le_refl _
  | k + 1, h => by
    have := cnt_apart (k := k) fun i hi => h i (by omega)
    have := h k (by omega)
    unfold cnt
    omega
theorem err_one {g : Nat → List Value} {j : Nat} (h : errAt g j = 0) (hj : 0 < j) : pc ((me (g j)).toNat ^^^ (me (g (j - 1))).toNat) = 1 := by
  obtain ⟨h1, h2, h3⟩ := err_lt h
  have e := err1 h1 (by omega) h3
  rw [h, decide_eq_true hj, Bool.true_and] at e
  cases hq : Nat.beq (pc ((me (g j)).toNat ^^^ (me (g (j - 1))).toNat)) 1 with
  | true => exact Nat.eq_of_beq_eq_true hq
  | false => rw [hq] at e; exact absurd e (by decide)
/-- MAJORITIES OF SETS THAT DIFFER IN ONE AT MOST SHARE A MEMBER OF BOTH. -/
theorem share {X Y a b : Nat} (h1 : pc X < 2 * pc (X &&& a)) (h2 : pc Y < 2 * pc (Y &&& b)) (hd : pc (Y ^^^ X) ≤ 1) (hz : ((a &&& b) &&& X) &&& Y = 0) : False := by
  have e1 : pc (X ||| Y) + pc (X ||| Y) = pc X + pc Y + pc (Y ^^^ X) := cnt_two fun i _ => by
    rw [Nat.testBit_or, Nat.testBit_xor]
    cases X.testBit i <;> cases Y.testBit i <;> rfl
  have e2 : pc (X &&& a) + pc (Y &&& b) ≤ pc (X ||| Y) := cnt_apart fun i _ => by
    have hb : (((a &&& b) &&& X) &&& Y).testBit i = false := by rw [hz]; exact Nat.zero_testBit i
    simp only [Nat.testBit_and] at hb
    rw [Nat.testBit_or, Nat.testBit_and, Nat.testBit_and]
    revert hb
    cases X.testBit i <;> cases Y.testBit i <;> cases a.testBit i <;> cases b.testBit i <;> decide
  omega
theorem pc_xor_self (X : Nat) : pc (X ^^^ X) = 0 := by
  rw [Nat.xor_self]
  exact cnt_none.2 fun i _ => Nat.zero_testBit i
end Go.Proofs.Ytnpdpbiikejflaa
