/- The reference's LeastOf and SpareOf, walked. -/
import Derived.Test.YtegpniiokiejhaaQq
namespace Go.Proofs.Ytegpniiokiejhaa
open Go.ChangeShapes Go.WideShapes Go.ChangeAt Go.RowKit Go.Shelf
set_option maxHeartbeats 2000000 in
theorem leastOf_any (v : Value) (L : List Int) (need : Int) (N : Nat) (w : World) (hL : Is N w v L) (hQ : Qok L need) :
    Calls Try.prog 27 #[v, .int .i64 need] w fun e w' => (∃ b : Nat, e = .returned (.int .i64 b) ∧ Best L need (2 ^ L.length) b) ∧ w' = w := by
  have HI := hid_of hL
  have HW := hid_of hQ.w
  have hl := hQ.w.l2
  have n1 := hQ.n1
  have n2 := hQ.n2
  have n3 := hQ.w.sum.2
  have need2 : need ≤ 1200 := by omega
  have hpw := pow_wrap hl
  have hpb := pow_small hl
  have HMS := hid_of (fun k (h : k < 2 ^ L.length) => sz_all h (show L.length ≤ 64 by omega))
  generalize 2 ^ L.length = M at *
  obtain ⟨a, c, rfl⟩ := hL.shape
  clear hL hQ n2 n3
  go_enter Try.func27, Try.ntmps27
  go_wp2_with fail
  go_loopw [5, 6] (fun y i w' => ∃ b k : Nat, k ≤ M ∧ b ≤ 12 ∧ y = .int .i64 b ∧ i = .int .u64 k ∧ Hid (Best L need k b) ∧ w' = w) (fun _ i _ => M - (intOf i).toNat)
  case atStart => exact ⟨L.length, 0, by omega, hl, rfl, rfl, ⟨Nat.le_refl _, .inl rfl, fun s hs => by omega⟩, rfl⟩
  case round =>
    obtain ⟨b, k, hk, hb, rfl, rfl, HB, hw⟩ := hrel
    subst hw
    by_cases hlt : k < M
    · have tl : (k : Int) < (M : Int) := by omega
      have h64 : k < 18446744073709551616 := by omega
      have HST := hid_of (best_step HB.out)
      have HSu := hid_of (sumOf_any (.slice a L.length c) L k N wr h64 HI.out HW.out)
      have HSz := hid_of (size_any k wr h64)
      rw [HMS.out k hlt] at HSz
      obtain ⟨q1, q2⟩ := HW.out.sm k L.length (Nat.le_refl _)
      have q3 := sz_le k L.length
      generalize sm L k L.length = y at *
      generalize sz k L.length = z at *
      clear HB
      by_cases d1 : need ≤ y
      · by_cases d2 : z < b
        · rw [if_pos ⟨d1, d2⟩] at HST
          have d2' : (z : Int) < (b : Int) := by omega
          go_wp2_with fail
          refine HSu.out.mono ?_
          rintro e w2 ⟨rfl, hw⟩
          subst hw
          go_wp2_with fail
          refine HSz.out.mono ?_
          rintro e w2 ⟨rfl, hw⟩
          subst hw
          go_wp2_with fail
          refine HSz.out.mono ?_
          rintro e w2 ⟨rfl, hw⟩
          subst hw
          go_wp2_with fail
          refine ⟨⟨z, k + 1, by omega, by omega, rfl, by go_num, HST, trivial⟩, by simp [intOf]; omega⟩
        · rw [if_neg (by omega)] at HST
          have d2' : ¬ (z : Int) < (b : Int) := by omega
          go_wp2_with fail
          refine HSu.out.mono ?_
          rintro e w2 ⟨rfl, hw⟩
          subst hw
          go_wp2_with fail
          refine HSz.out.mono ?_
          rintro e w2 ⟨rfl, hw⟩
          subst hw
          go_wp2_with fail
          refine ⟨⟨b, k + 1, by omega, by omega, rfl, by go_num, HST, trivial⟩, by simp [intOf]; omega⟩
      · rw [if_neg (by omega)] at HST
        go_wp2_with fail
        refine HSu.out.mono ?_
        rintro e w2 ⟨rfl, hw⟩
        subst hw
        go_wp2_with fail
        refine ⟨⟨b, k + 1, by omega, by omega, rfl, by go_num, HST, trivial⟩, by simp [intOf]; omega⟩
    · have tl : ¬ (k : Int) < (M : Int) := by omega
      have hke : k = M := by omega
      subst hke
      go_wp2_with fail
      go_ret
      exact ⟨⟨b, rfl, HB.out⟩, rfl⟩
set_option maxHeartbeats 2000000 in
theorem spareOf_any (v : Value) (L : List Int) (need : Int) (N : Nat) (w : World) (hL : Is N w v L) (hQ : Qok L need) :
    Calls Try.prog 28 #[v, .int .i64 need] w fun e w' => (∃ b : Nat, e = .returned (.int .i64 b) ∧ Wrst L need (2 ^ L.length) b) ∧ w' = w := by
  have HI := hid_of hL
  have HW := hid_of hQ.w
  have hl := hQ.w.l2
  have n1 := hQ.n1
  have n2 := hQ.n2
  have n3 := hQ.w.sum.2
  have need2 : need ≤ 1200 := by omega
  have hpw := pow_wrap hl
  have hpb := pow_small hl
  have HFU := hid_of (fun k h64 h => sz_full (s := k) hQ.w h64 hQ.n2 h)
  have HMS := hid_of (fun k (h : k < 2 ^ L.length) => sz_all h (show L.length ≤ 64 by omega))
  generalize 2 ^ L.length = M at *
  obtain ⟨a, c, rfl⟩ := hL.shape
  clear hL hQ n2 n3
  go_enter Try.func28, Try.ntmps28
  go_wp2_with fail
  go_loopw [5, 6] (fun y i w' => ∃ b k : Nat, k ≤ M ∧ b ≤ 12 ∧ y = .int .i64 b ∧ i = .int .u64 k ∧ Hid (Wrst L need k b) ∧ w' = w) (fun _ i _ => M - (intOf i).toNat)
  case atStart => exact ⟨L.length, 0, by omega, hl, rfl, rfl, ⟨Nat.le_refl _, .inl rfl, fun s hs => by omega⟩, rfl⟩
  case round =>
    obtain ⟨b, k, hk, hb, rfl, rfl, HB, hw⟩ := hrel
    subst hw
    by_cases hlt : k < M
    · have tl : (k : Int) < (M : Int) := by omega
      have h64 : k < 18446744073709551616 := by omega
      have HST := hid_of (wrst_step HB.out)
      have HSu := hid_of (sumOf_any (.slice a L.length c) L k N wr h64 HI.out HW.out)
      have HSz := hid_of (size_any k wr h64)
      have HF := hid_of (HFU.out k h64)
      rw [HMS.out k hlt] at HSz
      obtain ⟨q1, q2⟩ := HW.out.sm k L.length (Nat.le_refl _)
      have q3 := sz_le k L.length
      generalize sm L k L.length = y at *
      generalize sz k L.length = z at *
      clear HB
      by_cases d1 : y < need
      · have hz := HF.out d1
        obtain ⟨t, ht⟩ : ∃ t, L.length - z - 1 = t := ⟨_, rfl⟩
        rw [ht] at HST
        have ht2 : (L.length : Int) - (z : Int) - 1 = (t : Int) := by omega
        have t12 : t ≤ 12 := by omega
        clear ht
        by_cases d2 : t < b
        · rw [if_pos ⟨d1, d2⟩] at HST
          have d2' : (t : Int) < (b : Int) := by omega
          go_wp2_with fail
          refine HSu.out.mono ?_
          rintro e w2 ⟨rfl, hw⟩
          subst hw
          go_wp2_with fail
          refine HSz.out.mono ?_
          rintro e w2 ⟨rfl, hw⟩
          subst hw
          go_wp2_with fail
          refine HSz.out.mono ?_
          rintro e w2 ⟨rfl, hw⟩
          subst hw
          go_wp2_with fail
          refine ⟨⟨t, k + 1, by omega, by omega, by first | rfl | rw [ht2], by go_num, HST, trivial⟩, by simp [intOf]; omega⟩
        · rw [if_neg (by omega)] at HST
          have d2' : ¬ (t : Int) < (b : Int) := by omega
          go_wp2_with fail
          refine HSu.out.mono ?_
          rintro e w2 ⟨rfl, hw⟩
          subst hw
          go_wp2_with fail
          refine HSz.out.mono ?_
          rintro e w2 ⟨rfl, hw⟩
          subst hw
          go_wp2_with fail
          refine ⟨⟨b, k + 1, by omega, by omega, rfl, by go_num, HST, trivial⟩, by simp [intOf]; omega⟩
      · rw [if_neg (by omega)] at HST
        go_wp2_with fail
        refine HSu.out.mono ?_
        rintro e w2 ⟨rfl, hw⟩
        subst hw
        go_wp2_with fail
        refine ⟨⟨b, k + 1, by omega, by omega, rfl, by go_num, HST, trivial⟩, by simp [intOf]; omega⟩
    · have tl : ¬ (k : Int) < (M : Int) := by omega
      have hke : k = M := by omega
      subst hke
      go_wp2_with fail
      go_ret
      exact ⟨⟨b, rfl, HB.out⟩, rfl⟩
end Go.Proofs.Ytegpniiokiejhaa
