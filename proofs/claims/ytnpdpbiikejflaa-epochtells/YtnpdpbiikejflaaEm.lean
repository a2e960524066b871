/- Who is common to all: what is to be shown. -/
import Derived.Test.YtnpdpbiikejflaaEl
namespace Go.Proofs.Ytnpdpbiikejflaa
open Go.RowKit
def and63 (n : Int) : Int := IntKind.wrap .i64 (BitVec.toNat (BitVec.ofInt (IntKind.bits .i64) n &&& BitVec.ofInt (IntKind.bits .i64) 63))
theorem and63_ok (n : Int) : 0 ≤ and63 n ∧ and63 n ≤ 63 := by
  unfold and63
  have h : (BitVec.toNat (BitVec.ofInt (IntKind.bits .i64) n &&& BitVec.ofInt (IntKind.bits .i64) 63)) ≤ 63 := by
    rw [BitVec.toNat_and]
    exact Nat.and_le_right
  rw [IntKind.wrap_i64]
  omega
def andNotI (a b : Int) : Int := IntKind.wrap .u64 (BitVec.toNat (BitVec.ofInt (IntKind.bits .u64) a &&& ~~~BitVec.ofInt (IntKind.bits .u64) b))
theorem andNot_zero {a b : Nat} (ha : a < 18446744073709551616) (hb : b < 18446744073709551616) (h : ∀ i, a.testBit i = true → b.testBit i = true) : andNotI a b = 0 := by
  have e : (BitVec.ofInt 64 (a : Int) &&& ~~~BitVec.ofInt 64 (b : Int)) = 0#64 := by
    apply BitVec.eq_of_getLsbD_eq
    intro i hi
    rw [BitVec.getLsbD_and, BitVec.getLsbD_not]
    show ((BitVec.ofInt 64 (a : Int)).toNat.testBit i && (decide (i < 64) && !(BitVec.ofInt 64 (b : Int)).toNat.testBit i)) = _
    rw [ofInt_nat ha, ofInt_nat hb]
    cases hx : a.testBit i with
    | false => simp
    | true => rw [h i hx]; simp
  show IntKind.wrap .u64 (BitVec.toNat (BitVec.ofInt 64 (a : Int) &&& ~~~BitVec.ofInt 64 (b : Int))) = 0
  rw [e]
  rfl
theorem andK_bit (g : Nat → List Value) (b : Nat) : ∀ k, (andK g (k + 1)).testBit b = allIn g b (k + 1)
  | 0 => by
    show (me (g 0)).toNat.testBit b = (true && (me (g 0)).toNat.testBit b)
    rw [Bool.true_and]
  | k + 1 => by
    show (andK g (k + 1) &&& (me (g (k + 1))).toNat).testBit b = (allIn g b (k + 1) && (me (g (k + 1))).toNat.testBit b)
    rw [Nat.testBit_and, andK_bit g b k]
theorem allIn_at {g : Nat → List Value} {b : Nat} : ∀ {k : Nat}, allIn g b k = true → ∀ j, j < k → (me (g j)).toNat.testBit b = true
  | 0, _, j, hj => by omega
  | k + 1, h, j, hj => by
    unfold allIn at h
    rw [Bool.and_eq_true] at h
    by_cases e : j = k
    · subst e; exact h.2
    · exact allIn_at h.1 j (by omega)
theorem allIn_less {g : Nat → List Value} {b : Nat} : ∀ {k j : Nat}, allIn g b k = true → j ≤ k → allIn g b j = true
  | 0, j, h, hj => by have : j = 0 := by omega
                      subst this; exact h
  | k + 1, j, h, hj => by
    by_cases e : j = k + 1
    · subst e; exact h
    · unfold allIn at h
      rw [Bool.and_eq_true] at h
      exact allIn_less h.1 (by omega)
def keepEC : AE → List Nat
  | .normal => [0, 2, 7, 11, 12]
  | .exit _ => [2, 7, 11]
  | .ret => []
def gECL : List Value → List AObj → (AE → List Value → List AObj → Out) → Out
  | [.slice (some ⟨0, 0, some 0⟩) l c, .int .i64 n, .int .u64 x, .bool b, .int .i64 i], [.recs sh m g], k => (match shEq sh ekK with
    | true => .ask (l = m ∧ c = m ∧ b = true ∧ i = 0 ∧ m ≤ 140737488355328 ∧ RU m g) (k (.exit 0) [.int .i64 n, .int .u64 x, .bool (allIn g (and63 n).toNat m)] [.recs sh m g])
    | false => .bad)
  | _, _, _ => .bad
def lEC : Nat → Option LCon := oneL 11 (lspec 87 keepEC 1 gECL)
end Go.Proofs.Ytnpdpbiikejflaa
