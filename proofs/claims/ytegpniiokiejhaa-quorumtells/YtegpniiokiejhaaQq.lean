/- What the reference's LeastOf and SpareOf answer: all sets tried. -/
import Derived.Test.YtegpniiokiejhaaQr
namespace Go.Proofs.Ytegpniiokiejhaa
open Go.ChangeShapes Go.WideShapes Go.ChangeAt Go.RowKit Go.Shelf
theorem bt_pow (i j : Nat) : bt (2 ^ i) j = decide (i = j) := by rw [bt_test, Nat.testBit_two_pow]
theorem sm_congr {L : List Int} {a b : Nat} : ∀ k, (∀ j, j < k → bt a j = bt b j) → sm L a k = sm L b k
  | 0, _ => rfl
  | k + 1, h => by simp only [sm]; rw [sm_congr k (fun j hj => h j (by omega)), h k (by omega)]
theorem sz_congr {a b : Nat} : ∀ k, (∀ j, j < k → bt a j = bt b j) → sz a k = sz b k
  | 0, _ => rfl
  | k + 1, h => by simp only [sz]; rw [sz_congr k (fun j hj => h j (by omega)), h k (by omega)]
/-- the heaviest so many are a set -/
theorem top_set (L : List Int) : ∀ i, i ≤ L.length → ∀ k, k ≤ i → ∃ s, s < 2 ^ i ∧ sz s i = k ∧ sm L s i = pre k (srt (L.take i))
  | 0, _, k, hk => ⟨0, by simp, by simp [sz]; omega, by
      have : k = 0 := by omega
      subst this; rfl⟩
  | i + 1, hi, 0, _ => ⟨0, Nat.two_pow_pos _, by
      have : ∀ n, sz 0 n = 0 := fun n => by
        induction n with
        | zero => rfl
        | succ n ih => simp only [sz]; rw [ih, bt_zero]; rfl
      exact this _, by rw [sm_zero_set, pre_zero]⟩
  | i + 1, hi, k + 1, hk => by
    have hp : 2 ^ (i + 1) = 2 ^ i + 2 ^ i := by rw [Nat.pow_succ]; omega
    have hlen := srt_len L i (by omega)
    rw [srt_take (by omega)]
    rcases pre_or (x := L[i]?.getD 0) (O := srt (L.take i)) (n := k) (by omega) with h | ⟨h1, h2⟩
    · obtain ⟨s, a, b, c⟩ := top_set L i (by omega) k (by omega)
      have hb : ∀ j, j < i → bt (s ||| 2 ^ i) j = bt s j := fun j hj => by
        rw [bt_or, bt_pow, decide_eq_false (by omega), Bool.or_false]
      have hbi : bt (s ||| 2 ^ i) i = true := by rw [bt_or, bt_pow, decide_eq_true rfl, Bool.or_true]
      refine ⟨s ||| 2 ^ i, Nat.or_lt_two_pow (by omega) (by omega), ?_, ?_⟩
      · simp only [sz]
        rw [sz_congr i hb, hbi, b]
        rfl
      · simp only [sm]
        rw [sm_congr i hb, hbi, c, h]
        rfl
    · obtain ⟨s, a, b, c⟩ := top_set L i (by omega) (k + 1) (by omega)
      have hbi := bt_high a (Nat.le_refl i)
      refine ⟨s, by omega, ?_, ?_⟩
      · simp only [sz]
        rw [hbi, b]
        rfl
      · simp only [sm]
        rw [hbi, c, h2]
        simp
theorem top_all (L : List Int) {k : Nat} (hk : k ≤ L.length) : ∃ s, s < 2 ^ L.length ∧ sz s L.length = k ∧ sm L s L.length = pre k (srt L) := by
  have := top_set L L.length (Nat.le_refl _) k hk
  rwa [List.take_length] at this
theorem least_ex {O : List Int} {m : Int} (h : m ≤ pre O.length O) : ∃ k, Least O m k := by
  have key : ∀ n, n ≤ O.length → m ≤ pre n O → ∃ k, k ≤ O.length ∧ m ≤ pre k O ∧ ∀ i, i < k → pre i O < m := by
    intro n
    induction n with
    | zero => exact fun _ h => ⟨0, by omega, h, fun i hi => by omega⟩
    | succ n ih =>
      intro hn h
      by_cases c : ∃ i, i < n + 1 ∧ m ≤ pre i O
      · obtain ⟨i, hi, hm⟩ := c
        by_cases e : m ≤ pre n O
        · exact ih (by omega) e
        · have key2 : ∀ j, j ≤ n → m ≤ pre j O → ∃ k, k ≤ O.length ∧ m ≤ pre k O ∧ ∀ i, i < k → pre i O < m := by
            intro j
            induction j using Nat.strongRecOn with
            | ind j ihj =>
              intro hj hmj
              by_cases d : ∃ i, i < j ∧ m ≤ pre i O
              · obtain ⟨i, hi, hmi⟩ := d
                exact ihj i hi (by omega) hmi
              · exact ⟨j, by omega, hmj, fun i hi => by
                  by_cases f : m ≤ pre i O
                  · exact absurd ⟨i, hi, f⟩ d
                  · omega⟩
          exact key2 i (by omega) hm
      · exact ⟨n + 1, hn, h, fun i hi => by
          by_cases f : m ≤ pre i O
          · exact absurd ⟨i, hi, f⟩ c
          · omega⟩
  obtain ⟨k, a, b, c⟩ := key O.length (Nat.le_refl _) h
  exact ⟨k, a, b, c⟩
/-- the best of the first k sets -/
def Best (L : List Int) (m : Int) (k b : Nat) : Prop := b ≤ L.length ∧ (b = L.length ∨ ∃ s, s < k ∧ m ≤ sm L s L.length ∧ sz s L.length = b) ∧ ∀ s, s < k → m ≤ sm L s L.length → b ≤ sz s L.length
theorem best_least {L : List Int} {m : Int} {b : Nat} (h : Best L m (2 ^ L.length) b) (hm : m ≤ L.sum) : Least (srt L) m b := by
  obtain ⟨k, hk⟩ := least_ex (O := srt L) (m := m) (by rw [srt_length, srt_total]; exact hm)
  have hkl := hk.1
  rw [srt_length] at hkl
  obtain ⟨s, s1, s2, s3⟩ := top_all L hkl
  obtain ⟨b1, b2, b3⟩ := h
  have h1 := b3 s s1 (by rw [s3]; exact hk.2.1)
  have h2 : k ≤ b := by
    rcases b2 with h | ⟨s', a1, a2, a3⟩
    · omega
    · have hp := sm_pre (L := L) s'
      rw [a3] at hp
      by_cases c : b < k
      · have := hk.2.2 b c
        omega
      · omega
  have : b = k := by omega
  rw [this]
  exact hk
theorem best_step {L : List Int} {m : Int} {k b : Nat} (h : Best L m k b) : Best L m (k + 1) (if m ≤ sm L k L.length ∧ sz k L.length < b then sz k L.length else b) := by
  obtain ⟨b1, b2, b3⟩ := h
  by_cases c : m ≤ sm L k L.length ∧ sz k L.length < b
  · rw [if_pos c]
    refine ⟨sz_le _ _, .inr ⟨k, by omega, c.1, rfl⟩, fun s hs hm => ?_⟩
    by_cases e : s = k
    · subst e; exact Nat.le_refl _
    · have := b3 s (by omega) hm
      omega
  · rw [if_neg c]
    refine ⟨b1, ?_, fun s hs hm => ?_⟩
    · rcases b2 with h | ⟨s, h1, h2, h3⟩
      · exact .inl h
      · exact .inr ⟨s, by omega, h2, h3⟩
    · by_cases e : s = k
      · subst e
        by_cases f : sz s L.length < b
        · exact absurd ⟨hm, f⟩ c
        · omega
      · exact b3 s (by omega) hm
/-- the best of the first k sets, of those that leave too little -/
def Wrst (L : List Int) (need : Int) (k b : Nat) : Prop := b ≤ L.length ∧ (b = L.length ∨ ∃ s, s < k ∧ sm L s L.length < need ∧ L.length - sz s L.length - 1 = b) ∧ ∀ s, s < k → sm L s L.length < need → b ≤ L.length - sz s L.length - 1
theorem wrst_step {L : List Int} {m : Int} {k b : Nat} (h : Wrst L m k b) : Wrst L m (k + 1) (if sm L k L.length < m ∧ L.length - sz k L.length - 1 < b then L.length - sz k L.length - 1 else b) := by
  obtain ⟨b1, b2, b3⟩ := h
  by_cases c : sm L k L.length < m ∧ L.length - sz k L.length - 1 < b
  · rw [if_pos c]
    refine ⟨by omega, .inr ⟨k, by omega, c.1, rfl⟩, fun s hs hm => ?_⟩
    by_cases e : s = k
    · subst e; exact Nat.le_refl _
    · have := b3 s (by omega) hm
      omega
  · rw [if_neg c]
    refine ⟨b1, ?_, fun s hs hm => ?_⟩
    · rcases b2 with h | ⟨s, h1, h2, h3⟩
      · exact .inl h
      · exact .inr ⟨s, by omega, h2, h3⟩
    · by_cases e : s = k
      · subst e
        by_cases f : L.length - sz s L.length - 1 < b
        · exact absurd ⟨hm, f⟩ c
        · omega
      · exact b3 s (by omega) hm
theorem sz_full {L : List Int} (hW : Wok L) {s : Nat} (h64 : s < 18446744073709551616) {need : Int} (hn : need ≤ L.sum) (h : sm L s L.length < need) : sz s L.length < L.length := by
  have hl := hW.l2
  have h1 := sz_oth hl h64 L.length (Nat.le_refl _)
  have h2 := sm_oth L hl h64 rfl L.length (Nat.le_refl _)
  rw [List.take_length] at h2
  have h3 := sm_pre (L := L) (oth L.length s)
  by_cases c : sz (oth L.length s) L.length = 0
  · rw [c, pre_zero] at h3
    omega
  · omega
theorem wrst_spare {L : List Int} {need : Int} {b : Nat} (hQ : Qok L need) (h : Wrst L need (2 ^ L.length) b) : Least (srt L) (L.sum - need + 1) (b + 1) := by
  have hW := hQ.w
  have hl := hW.l2
  have hp := pow_small hl
  have hn2 := hQ.n2
  have hn1 := hQ.n1
  obtain ⟨k, hk⟩ := least_ex (O := srt L) (m := L.sum - need + 1) (by rw [srt_length, srt_total]; omega)
  have hkl := hk.1
  rw [srt_length] at hkl
  have hk1 : 1 ≤ k := by
    by_cases e : k = 0
    · have := hk.2.1
      rw [e, pre_zero] at this
      omega
    · omega
  obtain ⟨a, a1, a2, a3⟩ := top_all L hkl
  have a64 : a < 18446744073709551616 := by omega
  obtain ⟨b1, b2, b3⟩ := h
  have e1 := sz_oth hl a64 L.length (Nat.le_refl _)
  have e2 := sm_oth L hl a64 rfl L.length (Nat.le_refl _)
  rw [List.take_length] at e2
  have h1 := b3 (oth L.length a) oth_lt (by have := hk.2.1; omega)
  have h2 : k ≤ b + 1 := by
    rcases b2 with h | ⟨s, s1, s2, s3⟩
    · omega
    · have s64 : s < 18446744073709551616 := by omega
      have f1 := sz_oth hl s64 L.length (Nat.le_refl _)
      have f2 := sm_oth L hl s64 rfl L.length (Nat.le_refl _)
      rw [List.take_length] at f2
      have f3 := sm_pre (L := L) (oth L.length s)
      have f4 := sz_full hW s64 hn2 s2
      have f5 : sz (oth L.length s) L.length = b + 1 := by omega
      rw [f5] at f3
      by_cases c : b + 1 < k
      · have := hk.2.2 _ c
        omega
      · omega
  have : b + 1 = k := by omega
  rw [this]
  exact hk
end Go.Proofs.Ytegpniiokiejhaa
