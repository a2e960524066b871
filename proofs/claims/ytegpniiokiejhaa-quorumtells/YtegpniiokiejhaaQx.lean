/- How many nodes a set has; what Least and Spare mean. -/
import Derived.Test.YtegpniiokiejhaaQw
namespace Go.Proofs.Ytegpniiokiejhaa
open Go.ChangeShapes Go.WideShapes Go.ChangeAt Go.RowKit Go.Shelf
theorem shr_bt (s i : Nat) : (((s : Nat) : Int) / 2 ^ i % 2 == 1) = bt s i := by
  have e : ((s : Nat) : Int) / 2 ^ i % 2 = ((s / 2 ^ i % 2 : Nat) : Int) := by push_cast; rfl
  rw [e]
  unfold bt
  rw [Bool.eq_iff_iff, beq_iff_eq, beq_iff_eq]
  omega
set_option maxHeartbeats 400000 in
theorem inSet_any (s i : Nat) (w : World) (_ : s < 18446744073709551616) (hi : i < 64) : Calls Try.prog 55 #[.int .u64 s, .int .i64 i] w fun e w' => e = .returned (.bool (bt s i)) ∧ w' = w := by
  have HB := hid_of (shr_bt s i)
  have e2 : (2 : Int) ^ i = ((2 ^ i : Nat) : Int) := by push_cast; rfl
  have hp : 0 ≤ ((s : Nat) : Int) / 2 ^ i := Int.ediv_nonneg (by omega) (by rw [e2]; exact Int.natCast_nonneg _)
  clear e2
  have hm : (((s : Nat) : Int) / 2 ^ i).tmod 2 = ((s : Nat) : Int) / 2 ^ i % 2 := Int.tmod_eq_emod_of_nonneg hp
  go_enter Try.func55, Try.ntmps55
  go_wp2_with fail
  go_ret
  exact ⟨ret_bool HB.out, rfl⟩
set_option maxHeartbeats 1000000 in
theorem size_any (s : Nat) (w : World) (hs : s < 18446744073709551616) : Calls Try.prog 48 #[.int .u64 s] w fun e w' => e = .returned (.int .i64 (sz s 64 : Nat)) ∧ w' = w := by
  have HS := hid_of hs
  clear hs
  go_enter Try.func48, Try.ntmps48
  go_wp2_with fail
  go_loopw [3, 4] (fun c i w' => ∃ k : Nat, k ≤ 64 ∧ c = .int .i64 (sz s k : Nat) ∧ i = .int .i64 k ∧ w' = w) (fun _ i _ => 64 - (intOf i).toNat)
  case atStart => exact ⟨0, by omega, rfl, rfl, rfl⟩
  case round =>
    obtain ⟨k, hk, rfl, rfl, hw⟩ := hrel
    subst hw
    have hb := sz_le s k
    by_cases hlt : k < 64
    · have HT : Hid (sz s (k + 1) = sz s k + if bt s k = true then 1 else 0) := rfl
      go_wp2_with fail
      refine (inSet_any s k _ HS.out hlt).mono ?_
      rintro e w2 ⟨rfl, hw⟩
      subst hw
      cases c : bt s k
      · rw [c] at HT
        clear c
        go_wp2_with fail
        go_roundw
        case rel => exact ⟨k + 1, by omega, by rw [HT.out]; rfl, by go_num, trivial⟩
        case measure => simp [intOf]; omega
      · rw [c] at HT
        clear c
        go_wp2_with fail
        go_roundw
        case rel => exact ⟨k + 1, by omega, by rw [HT.out]; rfl, by go_num, trivial⟩
        case measure => simp [intOf]; omega
    · have hke : k = 64 := by omega
      subst hke
      go_wp2_with fail
      go_ret
      exact ⟨rfl, rfl⟩
theorem bt_high {s n i : Nat} (h : s < 2 ^ n) (hi : n ≤ i) : bt s i = false := by
  unfold bt
  have : s < 2 ^ i := Nat.lt_of_lt_of_le h (Nat.pow_le_pow_right (by omega) hi)
  rw [Nat.div_eq_of_lt this]
  rfl
theorem sz_high {s n : Nat} (h : s < 2 ^ n) : ∀ k, sz s (n + k) = sz s n
  | 0 => rfl
  | k + 1 => by
    rw [← Nat.add_assoc]
    simp only [sz]
    rw [bt_high h (by omega), sz_high h k]
    simp
theorem sz_all {s n : Nat} (h : s < 2 ^ n) (hn : n ≤ 64) : sz s 64 = sz s n := by
  have := sz_high h (64 - n)
  rwa [show n + (64 - n) = 64 by omega] at this
theorem pre_mono {L : List Int} (hW : Wok L) {a b : Nat} (hab : a ≤ b) (hb : b ≤ L.length) : pre a (srt L) ≤ pre b (srt L) := by
  induction b with
  | zero => have : a = 0 := by omega
            subst this; exact Int.le_refl _
  | succ b ih =>
    by_cases e : a = b + 1
    · subst e; exact Int.le_refl _
    · have := ih (by omega) (by omega)
      have hl : b < (srt L).length := by rw [srt_length]; omega
      have hx := hW.ok ((srt L)[b]?.getD 0) (srt_mem (y := (srt L)[b]?.getD 0) L.length (Nat.le_refl _) (by rw [List.take_length, List.getElem?_eq_getElem hl]; exact List.getElem_mem _))
      rw [pre_succ hl]
      omega
theorem sm_pre {L : List Int} (s : Nat) : sm L s L.length ≤ pre (sz s L.length) (srt L) := by
  have := sm_le L s L.length (Nat.le_refl _)
  rwa [List.take_length] at this
/-- what Spare and Least say of a set that is away -/
theorem spare_says {L : List Int} {need : Int} {s l a : Nat} (hq : qk L need = 0) (hs : SpareIs L need s) (hl : LeastIs L need l) (ha : a < 2 ^ L.length) :
    enE L need (oth L.length a) = 0 ∧ enE L need a = 0 ∧ (sz a 64 ≤ s → enB L need (oth L.length a) = true) ∧ (sz a 64 < l → enB L need a = false) ∧ s < L.length ∧ 1 ≤ l ∧ s + l ≤ L.length := by
  have hQ := qk_zero hq
  have hW := hQ.w
  have hl12 := hW.l2
  have h1 := hs.1 hq
  have h2 := hl.1 hq
  have hzz := sz_all ha (by omega)
  have e1 := en_of hQ (oth_lt (n := L.length) (s := a))
  have e2 := en_of hQ ha
  have hlen := srt_length L
  have h64 : a < 18446744073709551616 := by have := pow_small hl12; omega
  have hsl : s + 1 ≤ L.length := by have := h1.1; omega
  have hll : l ≤ L.length := by have := h2.1; omega
  have hl1 : 1 ≤ l := by
    by_cases e : l = 0
    · have := h2.2.1
      rw [e, pre_zero] at this
      have := hQ.n1
      omega
    · omega
  have hso := sm_oth L hl12 h64 rfl L.length (Nat.le_refl _)
  rw [List.take_length] at hso
  have hp := sm_pre (L := L) a
  refine ⟨e1, e2, fun h => ?_, fun h => ?_, by omega, hl1, ?_⟩
  · have hlt := h1.2.2 s (by omega)
    have hm := pre_mono hW (a := sz a L.length) (b := s) (by omega) (by omega)
    unfold enB
    rw [decide_eq_true e1, Bool.true_and]
    exact decide_eq_true (by omega)
  · have hlt := h2.2.2 (sz a L.length) (by omega)
    unfold enB
    rw [decide_eq_true e2, Bool.true_and]
    exact decide_eq_false (by omega)
  · have hlt := h2.2.2 (l - 1) (by omega)
    have hf : Fall (srt L) := by
      have := srt_fall L L.length (Nat.le_refl _)
      rwa [List.take_length] at this
    have hb := pre_both hf (m := l - 1) (by omega)
    have hsum : (srt L).sum = L.sum := by
      have := srt_sum L L.length (Nat.le_refl _)
      rwa [List.take_length] at this
    rw [hsum, hlen] at hb
    by_cases c : L.length - (l - 1) < s + 1
    · have := h1.2.2 _ c
      omega
    · omega
theorem spare_no {L : List Int} {need : Int} {s l : Nat} (hq : qk L need ≠ 0) (hs : SpareIs L need s) (hl : LeastIs L need l) : s = 0 ∧ l = 0 := ⟨hs.2 hq, hl.2 hq⟩
end Go.Proofs.Ytegpniiokiejhaa
