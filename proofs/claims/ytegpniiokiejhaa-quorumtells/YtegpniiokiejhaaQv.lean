/- Sets as numbers: sums of both, of what is shared, of all others. -/
import Derived.Test.YtegpniiokiejhaaQu
namespace Go.Proofs.Ytegpniiokiejhaa
open Go.ChangeShapes Go.WideShapes Go.ChangeAt Go.RowKit Go.Shelf
theorem bt_test (s i : Nat) : bt s i = s.testBit i := by
  rw [Nat.testBit_eq_decide_div_mod_eq]
  unfold bt
  rw [Bool.eq_iff_iff]
  simp
theorem bt_and (a b i : Nat) : bt (a &&& b) i = (bt a i && bt b i) := by rw [bt_test, bt_test, bt_test, Nat.testBit_and]
theorem bt_or (a b i : Nat) : bt (a ||| b) i = (bt a i || bt b i) := by rw [bt_test, bt_test, bt_test, Nat.testBit_or]
theorem bt_zero (i : Nat) : bt 0 i = false := by rw [bt_test]; simp
theorem sm_both (L : List Int) (a b : Nat) : ∀ k, sm L (a ||| b) k + sm L (a &&& b) k = sm L a k + sm L b k
  | 0 => rfl
  | k + 1 => by
    have ih := sm_both L a b k
    simp only [sm, bt_and, bt_or]
    cases bt a k <;> cases bt b k <;> simp <;> omega
theorem sm_zero_set (L : List Int) : ∀ k, sm L 0 k = 0
  | 0 => rfl
  | k + 1 => by simp only [sm, bt_zero]; rw [sm_zero_set L k]; rfl
theorem sm_top {L : List Int} (h : Wok L) (s : Nat) : ∀ k, k ≤ L.length → sm L s k ≤ (L.take k).sum
  | 0, _ => by simp [sm]
  | k + 1, hk => by
    have ih := sm_top h s k (by omega)
    have hx := h.at (show k < L.length by omega)
    rw [take_sum (by omega)]
    simp only [sm]
    split <;> omega
theorem sm_most {L : List Int} (h : Wok L) (s : Nat) : sm L s L.length ≤ L.sum := by
  have := sm_top h s L.length (Nat.le_refl _)
  rwa [List.take_length] at this
theorem and_lt {a b n : Nat} (h : a < 2 ^ n) : a &&& b < 2 ^ n := Nat.lt_of_le_of_lt Nat.and_le_left h
theorem sm_mono (L : List Int) (h : Wok L) (a b : Nat) : ∀ k, k ≤ L.length → sm L a k ≤ sm L (a ||| b) k
  | 0, _ => by simp [sm]
  | k + 1, hk => by
    have ih := sm_mono L h a b k (by omega)
    have hx := h.at (show k < L.length by omega)
    simp only [sm, bt_or]
    cases bt a k <;> cases bt b k <;> simp <;> omega
theorem pow_small {n : Nat} (h : n ≤ 12) : 2 ^ n ≤ 4096 := Nat.pow_le_pow_right (by omega) h (n := 2)
/-- two sets that are enough share something -/
theorem shares {L : List Int} {need : Int} {a b : Nat} (ha : enE L need a = 0) (_ : enE L need b = 0) (xa : enB L need a = true) (xb : enB L need b = true) : smE L (a &&& b) = 0 ∧ a &&& b ≠ 0 ∧ 0 < smV L (a &&& b) := by
  obtain ⟨hq, h1⟩ := en_zero ha
  have hz := sm_of hq.w (and_lt (b := b) h1)
  unfold enB at xa xb
  rw [Bool.and_eq_true] at xa xb
  have xa := of_decide_eq_true xa.2
  have xb := of_decide_eq_true xb.2
  have e := sm_both L a b L.length
  have m := sm_most hq.w (a ||| b)
  have n3 := hq.n3
  have hv : smV L (a &&& b) = sm L (a &&& b) L.length := by unfold smV; rw [if_pos hz]
  refine ⟨hz, fun h => ?_, by rw [hv]; omega⟩
  rw [h, sm_zero_set] at e
  omega
end Go.Proofs.Ytegpniiokiejhaa
