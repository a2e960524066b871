/- The program's checks are the reference's. -/
import Derived.Test.YtbmbnbhedalcnabXr
namespace Go.Proofs.Ytbmbnbhedalcnab
open Go.RowKit
theorem rsl_eq (a b x y : Int) : x_rsl a b x y = slt (a, b) (x, y) := by
  unfold x_rsl slt
  by_cases h : a = x
  · subst h; simp
  · have e : (a == x) = false := by simpa using h
    rw [e]
    simp [h]
theorem rsc_eq (a b : Int) : x_rsc a b = sck (a, b) := by
  unfold x_rsc sck
  by_cases h1 : a < 0
  · simp [h1]
  · by_cases h2 : 1000000 < a
    · simp [h1, h2]
    · by_cases h3 : b < 0
      · simp [h1, h2, h3]
      · by_cases h4 : 31 < b
        · simp [h1, h2, h3, h4]
        · simp [h1, h2, h3, h4]
theorem rcc_eq (t w : Int) (s : ByteArray) : x_rcc t w s = cck ((t, w), s) := by
  unfold x_rcc cck
  rw [rsc_eq]
  rcases sck_or (t, w) with h | h
  · by_cases h2 : 64 < s.size
    · have : (64 : Int) < (s.size : Int) := by omega
      simp [h, h2, this]
    · have : ¬ (64 : Int) < (s.size : Int) := by omega
      simp [h, h2, this]
  · simp [h]
theorem rcs_eq (a b t w : Int) (s : ByteArray) : x_rcs a b t w s = x_cseat a b t w s := by
  unfold x_rcs x_cseat
  rw [rsc_eq, rcc_eq, rsl_eq]
theorem toL_nil (s : ByteArray) : (ByteArray.toList s == []) = decide (s.size = 0) := by
  rw [ByteArray.toList_eq]
  obtain ⟨⟨l⟩⟩ := s
  cases l with
  | nil => rfl
  | cons x l => simp [ByteArray.size]
theorem rcv_eq (k b n t w : Int) (s : ByteArray) : x_rcv k b n t w s = x_cvote k b n t w s := by
  unfold x_rcv x_cvote x_num x_alone
  rw [rcc_eq, toL_nil]
  by_cases h1 : k < 1
  · simp [h1]
  by_cases h2 : k > 4
  · simp [h1, h2]
  by_cases h3 : b < 0
  · have : ¬ 0 ≤ b := by omega
    simp [h1, h2, h3, this]
  by_cases h4 : b > 30
  · have h5 : 0 ≤ b := by omega
    have h6 : ¬ b < 31 := by omega
    simp [h1, h2, h3, h4, h5, h6]
  have h5 : 0 ≤ b := by omega
  have h6 : b < 31 := by omega
  by_cases h7 : n < 0
  · simp [h1, h2, h3, h4, h5, h6, h7]
  by_cases h8 : n > 11
  · have h9 : n ≥ 12 := by omega
    simp [h1, h2, h3, h4, h5, h6, h7, h8, h9]
  have h9 : ¬ n ≥ 12 := by omega
  rcases cck_or ((t, w), s) with hc | hc | hc
  · by_cases h10 : s.size = 0
    · simp [h1, h2, h3, h4, h5, h6, h7, h8, h9, hc, h10]
    · have h11 : 0 < s.size := by omega
      have hk : k = 1 ∨ k = 2 ∨ k = 3 ∨ k = 4 := by omega
      rcases hk with rfl | rfl | rfl | rfl <;> simp [h3, h4, h5, h6, h7, h8, h9, hc, h10, h11]
  · simp [h1, h2, h3, h4, h5, h6, h7, h8, h9, hc]
  · simp [h1, h2, h3, h4, h5, h6, h7, h8, h9, hc]
end Go.Proofs.Ytbmbnbhedalcnab
