/- The mathematics of the latest copy. -/
import Derived.Test.YtcplbpnpcmgjfaaCd
import Derived.Test.YtcplbpnpcmgjfaaSm
namespace Go.Proofs.Ytcplbpnpcmgjfaa
theorem slt_iff' (a b : St) : slt a b = false ↔ ¬ (a.1 < b.1 ∨ a.1 = b.1 ∧ a.2 < b.2) := by unfold slt; exact decide_eq_false_iff_not
/-- j is the first of the first k that is below none of them -/
def Top (L : List Cp) (k j : Nat) : Prop := j < k ∧ (∀ m, m < k → slt (L[j]?.getD cz).1 (L[m]?.getD cz).1 = false) ∧ ∀ m, m < j → slt (L[m]?.getD cz).1 (L[j]?.getD cz).1 = true
theorem top_step {L : List Cp} {k j : Nat} (h : Top L k j) : Top L (k + 1) (if slt (L[j]?.getD cz).1 (L[k]?.getD cz).1 = true then k else j) := by
  obtain ⟨h1, h2, h3⟩ := h
  by_cases c : slt (L[j]?.getD cz).1 (L[k]?.getD cz).1 = true
  · rw [if_pos c]
    refine ⟨by omega, fun m hm => ?_, fun m hm => ?_⟩
    · by_cases e : m = k
      · subst e
        rw [slt_iff']; omega
      · have := h2 m (by omega)
        rw [slt_iff] at c
        rw [slt_iff'] at this ⊢
        omega
    · have := h2 m (by omega)
      rw [slt_iff] at c ⊢
      rw [slt_iff'] at this
      omega
  · rw [if_neg c]
    refine ⟨by omega, fun m hm => ?_, h3⟩
    by_cases e : m = k
    · subst e; exact Bool.eq_false_iff.2 c
    · exact h2 m (by omega)
theorem latK_top {L : List Cp} : ∀ k, k + 1 ≤ L.length → ∃ j, Top L (k + 1) j ∧ latK L (k + 1) = L[j]?.getD cz
  | 0, _ => ⟨0, ⟨by omega, fun m hm => by
      obtain rfl : m = 0 := by omega
      rw [slt_iff']; omega, fun m hm => by omega⟩, latK_one L⟩
  | k + 1, h => by
    obtain ⟨j, h1, h2⟩ := latK_top (L := L) k (by omega)
    refine ⟨_, top_step h1, ?_⟩
    rw [latK_step (by omega) (by omega), h2]
    unfold ltr
    split
    · rfl
    · rfl
theorem lats_top {L : List Cp} (h : 0 < L.length) : ∃ j, Top L L.length j ∧ lats L = L[j]?.getD cz := by
  have := @latK_top L (L.length - 1) (by omega)
  rw [show L.length - 1 + 1 = L.length by omega] at this
  exact this
theorem top_one {L : List Cp} {k i j : Nat} (h1 : Top L k i) (h2 : Top L k j) : i = j := by
  by_cases c : i < j
  · have := h2.2.2 i c
    rw [h1.2.1 j h2.1] at this
    cases this
  · by_cases d : j < i
    · have := h1.2.2 j d
      rw [h2.2.1 i h1.1] at this
      cases this
    · omega
/-- is the i-th below one of the first k? -/
def abv (L : List Cp) (i : Nat) : Nat → Bool
  | 0 => false
  | k + 1 => abv L i k || slt (L[i]?.getD cz).1 (L[k]?.getD cz).1
theorem abv_true {L : List Cp} {i : Nat} : ∀ {k}, abv L i k = true → ∃ m, m < k ∧ slt (L[i]?.getD cz).1 (L[m]?.getD cz).1 = true
  | 0, h => by cases h
  | k + 1, h => by
    rw [abv, Bool.or_eq_true] at h
    rcases h with h | h
    · obtain ⟨m, h1, h2⟩ := abv_true h
      exact ⟨m, by omega, h2⟩
    · exact ⟨k, by omega, h⟩
theorem abv_false {L : List Cp} {i : Nat} : ∀ {k}, abv L i k = false → ∀ m, m < k → slt (L[i]?.getD cz).1 (L[m]?.getD cz).1 = false
  | 0, _, m, hm => by omega
  | k + 1, h, m, hm => by
    rw [abv, Bool.or_eq_false_iff] at h
    by_cases e : m = k
    · subst e; exact h.2
    · exact abv_false h.1 m (by omega)
/-- the first that is below none is the latest -/
theorem lats_first {L : List Cp} {i : Nat} (hi : i < L.length) (h1 : ∀ m, m < i → abv L m L.length = true) (h2 : abv L i L.length = false) : lats L = L[i]?.getD cz := by
  obtain ⟨j, hj, e⟩ := lats_top (L := L) (by omega)
  rw [e]
  suffices j = i by rw [this]
  by_cases c : j < i
  · obtain ⟨m, h3, h4⟩ := abv_true (h1 j c)
    rw [hj.2.1 m h3] at h4
    cases h4
  · by_cases d : i < j
    · have := hj.2.2 i d
      rw [abv_false h2 j hj.1] at this
      cases this
    · omega
theorem lats_some {L : List Cp} (h0 : 0 < L.length) (h1 : ∀ m, m < L.length → abv L m L.length = true) : False := by
  obtain ⟨j, hj, _⟩ := lats_top h0
  obtain ⟨m, h3, h4⟩ := abv_true (h1 j hj.1)
  rw [hj.2.1 m h3] at h4
  cases h4
end Go.Proofs.Ytcplbpnpcmgjfaa
