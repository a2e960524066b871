/- A set's others. -/
import Derived.Test.YtegpniiokiejhaaQv
import Derived.Laws.BitsAllLaws
namespace Go.Proofs.Ytegpniiokiejhaa
open Go.ChangeShapes Go.WideShapes Go.ChangeAt Go.RowKit Go.Shelf
/-- all nodes but those of a set -/
def oth (n s : Nat) : Nat := (2 ^ n - 1) &&& (18446744073709551615 - s)
theorem all_eq {n : Nat} (h : n ≤ 12) : IntKind.u64.wrap (IntKind.u64.wrap (2 ^ n) - 1) = ((2 ^ n - 1 : Nat) : Int) := by
  have h1 := pow_small h
  have h2 := Nat.two_pow_pos n
  have e : (2 : Int) ^ n = ((2 ^ n : Nat) : Int) := by push_cast; rfl
  rw [e, Go.IntWalk.u64_in ((2 ^ n : Nat) : Int) (by omega), Go.IntWalk.u64_in _ (by omega)]
  omega
theorem oth_eq {n s : Nat} (h : n ≤ 12) (hs : s < 18446744073709551616) : bits .andNot .u64 ((2 ^ n - 1 : Nat) : Int) (s : Int) = ((oth n s : Nat) : Int) :=
  u64_andNot_nat (2 ^ n - 1) s (by have := pow_small h; omega) hs
theorem oth_lt {n s : Nat} : oth n s < 2 ^ n := by
  have : oth n s ≤ 2 ^ n - 1 := Nat.and_le_left
  have := Nat.two_pow_pos n
  omega
theorem bt_oth {n s i : Nat} (hn : n ≤ 12) (hs : s < 18446744073709551616) (hi : i < n) : bt (oth n s) i = !bt s i := by
  unfold oth
  rw [bt_test, bt_test, Nat.testBit_and, Nat.testBit_two_pow_sub_one, decide_eq_true hi, Bool.true_and]
  have e : 18446744073709551615 - s = 2 ^ 64 - (s + 1) := by omega
  rw [e, Nat.testBit_two_pow_sub_succ (by omega)]
  rw [decide_eq_true (show i < 64 by omega), Bool.true_and]
theorem sm_oth (L : List Int) {n s : Nat} (hn : n ≤ 12) (hs : s < 18446744073709551616) (hL : L.length = n) : ∀ k, k ≤ n → sm L s k + sm L (oth n s) k = (L.take k).sum
  | 0, _ => rfl
  | k + 1, hk => by
    have ih := sm_oth L hn hs hL k (by omega)
    rw [take_sum (by omega)]
    simp only [sm]
    rw [bt_oth hn hs (by omega)]
    cases bt s k <;> simp <;> omega
theorem sz_oth {n s : Nat} (hn : n ≤ 12) (hs : s < 18446744073709551616) : ∀ k, k ≤ n → sz s k + sz (oth n s) k = k
  | 0, _ => rfl
  | k + 1, hk => by
    have ih := sz_oth hn hs k (by omega)
    simp only [sz]
    rw [bt_oth hn hs (by omega)]
    cases bt s k <;> simp <;> omega
end Go.Proofs.Ytegpniiokiejhaa
