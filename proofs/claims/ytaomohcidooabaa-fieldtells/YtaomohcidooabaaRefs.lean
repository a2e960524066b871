/- What the document's own power, logarithm and quotient answer, for whatever they are handed. -/
import Derived.Test.YtaomohcidooabaaMulOf
namespace Go.Proofs.Ytaomohcidooabaa
open Go.ChangeShapes Go.WideShapes Go.ChangeAt Go.RowKit
theorem mulOf_int (a b : Int) (w : World) (ha : 0 ≤ a) (ha' : a ≤ 255) (hb : 0 ≤ b) (hb' : b ≤ 255) :
    Calls Try.prog 16 #[.int .u8 a, .int .u8 b] w fun e w' => e = .returned (.int .u8 (Gf.gm a.toNat b.toNat)) ∧ w' = w := by
  obtain ⟨A, rfl⟩ := Int.eq_ofNat_of_zero_le ha
  obtain ⟨B, rfl⟩ := Int.eq_ofNat_of_zero_le hb
  rw [Int.toNat_natCast, Int.toNat_natCast]
  exact mulOf_any A B w (by omega) (by omega)
theorem powerOf_loop (n : Int) (N : Nat) (w : World) (h : wrap64 (n.tmod 255 + 255) = N ∧ n.tmod 255 < 0 ∨ n.tmod 255 = N ∧ ¬ n.tmod 255 < 0) (hN : N < 255) :
    Calls Try.prog 18 #[.int .i64 n] w fun e w' => e = .returned (.int .u8 (Gf.pw N)) ∧ w' = w := by
  rcases h with ⟨h, hn⟩ | ⟨h, hn⟩
  · have hh : Hid (wrap64 (n.tmod 255 + 255) = N) := h
    clear h
    go_enter Try.func18, Try.ntmps18
    go_wp2_with fail
    rw [hh.out]
    go_loopw [3, 4] (fun p i w' => ∃ k : Nat, k ≤ N ∧ i = .int .i64 k ∧ p = .int .u8 (Gf.pw k) ∧ w' = w) (fun _ i _ => N - (intOf i).toNat)
    case atStart => exact ⟨0, by omega, rfl, rfl, rfl⟩
    case round =>
      obtain ⟨k, hk, rfl, rfl, rfl⟩ := hrel
      by_cases hlt : k < N
      · have hs := Gf.pw_lt k
        have HE : Hid (Gf.pw (k + 1) = Gf.gm (Gf.pw k) 2) := Gf.pw_succ k
        go_wp2_with fail
        refine (mulOf_int _ _ _ (by omega) (by omega) (by omega) (by omega)).mono ?_
        rintro e w2 ⟨rfl, rfl⟩
        rw [Int.toNat_natCast]
        go_wp2_with fail
        go_roundw
        case rel => exact ⟨k + 1, by omega, by go_num, by rw [HE.out], trivial⟩
        case measure => simp [intOf]; omega
      · have hk' : k = N := by omega
        subst hk'
        go_wp2_with fail
        go_ret
        exact ⟨rfl, rfl⟩
  · go_enter Try.func18, Try.ntmps18
    go_wp2_with fail
    go_loopw [3, 4] (fun p i w' => ∃ k : Nat, k ≤ N ∧ i = .int .i64 k ∧ p = .int .u8 (Gf.pw k) ∧ w' = w) (fun _ i _ => N - (intOf i).toNat)
    case atStart => exact ⟨0, by omega, rfl, rfl, rfl⟩
    case round =>
      obtain ⟨k, hk, rfl, rfl, rfl⟩ := hrel
      by_cases hlt : k < N
      · have hs := Gf.pw_lt k
        have HE : Hid (Gf.pw (k + 1) = Gf.gm (Gf.pw k) 2) := Gf.pw_succ k
        go_wp2_with fail
        refine (mulOf_int _ _ _ (by omega) (by omega) (by omega) (by omega)).mono ?_
        rintro e w2 ⟨rfl, rfl⟩
        rw [Int.toNat_natCast]
        go_wp2_with fail
        go_roundw
        case rel => exact ⟨k + 1, by omega, by go_num, by rw [HE.out], trivial⟩
        case measure => simp [intOf]; omega
      · have hk' : k = N := by omega
        subst hk'
        go_wp2_with fail
        go_ret
        exact ⟨rfl, rfl⟩
theorem powerOf_any (n : Int) (w : World) :
    Calls Try.prog 18 #[.int .i64 n] w fun e w' => e = .returned (.int .u8 (Gf.pw (n % 255).toNat)) ∧ w' = w := by
  have hb1 : 0 ≤ n % 255 := Int.emod_nonneg _ (by decide)
  have hb2 : n % 255 < 255 := Int.emod_lt_of_pos _ (by decide)
  have hN : (((n % 255).toNat : Nat) : Int) = n % 255 := by omega
  refine powerOf_loop n (n % 255).toNat w ?_ (by omega)
  by_cases h : n.tmod 255 < 0
  · left; rw [hN]; exact ⟨turn_neg h, h⟩
  · right; rw [hN]; exact ⟨turn_pos h, h⟩
set_option maxRecDepth 100000 in
set_option maxHeartbeats 400000 in
theorem logOf_zero (w : World) :
    Calls Try.prog 12 #[.int .u8 0] w fun e w' => e = .returned (.tuple #[.int .i64 0, .int .i64 5]) ∧ w' = w := by
  go_enter Try.func12, Try.ntmps12
  go_wp2_with fail
  go_loopw [4, 5] (fun p i w' => ∃ k : Nat, k ≤ 255 ∧ i = .int .i64 k ∧ p = .int .u8 (Gf.pw k) ∧ w' = w) (fun _ i _ => 255 - (intOf i).toNat)
  case atStart => exact ⟨0, by omega, rfl, rfl, rfl⟩
  case round =>
    obtain ⟨k, hk, rfl, rfl, rfl⟩ := hrel
    by_cases hlt : k < 255
    · have hs := Gf.pw_lt k
      have hp := Gf.pw_pos k
      have ht : ((Gf.pw k : Int) == 0) = false := by rw [beq_eq_false_iff_ne]; omega
      have HE : Hid (Gf.pw (k + 1) = Gf.gm (Gf.pw k) 2) := Gf.pw_succ k
      go_wp2_with fail
      refine (mulOf_int _ _ _ (by omega) (by omega) (by omega) (by omega)).mono ?_
      rintro e w2 ⟨rfl, rfl⟩
      rw [Int.toNat_natCast]
      go_wp2_with fail
      go_roundw
      case rel => exact ⟨k + 1, by omega, by go_num, by rw [HE.out], trivial⟩
      case measure => simp [intOf]; omega
    · have hk' : k = 255 := by omega
      subst hk'
      go_wp2_with fail
      go_ret2
      exact ⟨rfl, rfl⟩
set_option maxRecDepth 100000 in
set_option maxHeartbeats 400000 in
theorem logOf_any (A : Nat) (w : World) (h0 : 0 < A) (ha : A ≤ 255) :
    Calls Try.prog 12 #[.int .u8 A] w fun e w' => e = .returned (.tuple #[.int .i64 (Gf.lg A), .int .i64 0]) ∧ w' = w := by
  have hl := Gf.lg_lt (a := A) (by omega) (by omega)
  have hp : Hid (Gf.pw (Gf.lg A) = A) := Gf.pw_lg (by omega) (by omega)
  go_enter Try.func12, Try.ntmps12
  go_wp2_with fail
  go_loopw [4, 5] (fun p i w' => ∃ k : Nat, k ≤ Gf.lg A ∧ i = .int .i64 k ∧ p = .int .u8 (Gf.pw k) ∧ w' = w) (fun _ i _ => 255 - (intOf i).toNat)
  case atStart => exact ⟨0, by omega, rfl, rfl, rfl⟩
  case round =>
    obtain ⟨k, hk, rfl, rfl, rfl⟩ := hrel
    have hs := Gf.pw_lt k
    by_cases hlt : k < Gf.lg A
    · have ht : ((Gf.pw k : Int) == (A : Int)) = false := by
        rw [beq_eq_false_iff_ne]
        intro c
        have e : Gf.pw k = A := by omega
        have := Gf.lg_pw (n := k) (by omega)
        rw [e] at this
        omega
      have HE : Hid (Gf.pw (k + 1) = Gf.gm (Gf.pw k) 2) := Gf.pw_succ k
      go_wp2_with fail
      refine (mulOf_int _ _ _ (by omega) (by omega) (by omega) (by omega)).mono ?_
      rintro e w2 ⟨rfl, rfl⟩
      rw [Int.toNat_natCast]
      go_wp2_with fail
      go_roundw
      case rel => exact ⟨k + 1, by omega, by go_num, by rw [HE.out], trivial⟩
      case measure => simp [intOf]; omega
    · have hk' : k = Gf.lg A := by omega
      subst hk'
      rw [hp.out]
      go_wp2_with fail
      go_ret2
      exact ⟨rfl, rfl⟩
theorem quotOf_zero (a : Int) (w : World) :
    Calls Try.prog 13 #[.int .u8 a, .int .u8 0] w fun e w' => e = .returned (.tuple #[.int .u8 0, .int .i64 5]) ∧ w' = w := by
  go_enter Try.func13, Try.ntmps13
  go_wp2_with fail
  go_ret2
  exact ⟨rfl, rfl⟩
set_option maxRecDepth 100000 in
set_option maxHeartbeats 400000 in
theorem quotOf_any (A B : Nat) (w : World) (ha : A ≤ 255) (h0 : 0 < B) (hb : B ≤ 255) :
    Calls Try.prog 13 #[.int .u8 A, .int .u8 B] w fun e w' => e = .returned (.tuple #[.int .u8 (Gf.gm A (Gf.inv B)), .int .i64 0]) ∧ w' = w := by
  have hi := Gf.inv_lt B
  have hq : Gf.gm A (Gf.inv B) < 256 := Gf.gm_lt (by omega)
  have HQ : Hid (Gf.gm (Gf.gm A (Gf.inv B)) B = A) := by
    show Gf.gm (Gf.gm A (Gf.inv B)) B = A
    rw [Gf.gm_assoc (by omega) hi, Gf.gm_inv (by omega) (by omega), Gf.gm_oneR (by omega)]
  have HU : Hid (∀ k, k < 256 → Gf.gm k B = A → k = Gf.gm A (Gf.inv B)) := by
    show ∀ k, k < 256 → Gf.gm k B = A → k = Gf.gm A (Gf.inv B)
    intro k hk e
    rw [← e, Gf.gm_assoc hk (by omega), Gf.gm_inv' (by omega) (by omega), Gf.gm_oneR hk]
  generalize Gf.gm A (Gf.inv B) = q at *
  have hB0 : ((B : Int) == 0) = false := by rw [beq_eq_false_iff_ne]; omega
  go_enter Try.func13, Try.ntmps13
  go_wp2_with fail
  go_loopw [6] (fun i w' => ∃ k : Nat, k ≤ q ∧ i = .int .i64 k ∧ w' = w) (fun i _ => 256 - (intOf i).toNat)
  case atStart => exact ⟨0, by omega, rfl, rfl⟩
  case round =>
    obtain ⟨k, hk, rfl, rfl⟩ := hrel
    by_cases hlt : k < q
    · have ht : ((Gf.gm k B : Int) == (A : Int)) = false := by
        rw [beq_eq_false_iff_ne]
        intro c
        have := HU.out k (by omega) (by omega)
        omega
      go_wp2_with fail
      refine (mulOf_int _ _ _ (by omega) (by omega) (by omega) (by omega)).mono ?_
      rintro e w2 ⟨rfl, rfl⟩
      rw [Int.toNat_natCast, Int.toNat_natCast]
      go_wp2_with fail
      go_roundw
      case rel => exact ⟨k + 1, by omega, by go_num, trivial⟩
      case measure => simp [intOf]; omega
    · have hk' : k = q := by omega
      subst hk'
      go_wp2_with fail
      refine (mulOf_int _ _ _ (by omega) (by omega) (by omega) (by omega)).mono ?_
      rintro e w2 ⟨rfl, rfl⟩
      rw [Int.toNat_natCast, Int.toNat_natCast, HQ.out]
      go_wp2_with fail
      go_ret2
      exact ⟨rfl, rfl⟩
theorem quotOf_int (a b : Int) (w : World) (ha : 0 ≤ a) (ha' : a ≤ 255) (hb : 0 < b) (hb' : b ≤ 255) :
    Calls Try.prog 13 #[.int .u8 a, .int .u8 b] w fun e w' => e = .returned (.tuple #[.int .u8 (Gf.gm a.toNat (Gf.inv b.toNat)), .int .i64 0]) ∧ w' = w := by
  obtain ⟨A, rfl⟩ := Int.eq_ofNat_of_zero_le ha
  obtain ⟨B, rfl⟩ := Int.eq_ofNat_of_zero_le (Int.le_of_lt hb)
  rw [Int.toNat_natCast, Int.toNat_natCast]
  exact quotOf_any A B w (by omega) (by omega) (by omega)
end Go.Proofs.Ytaomohcidooabaa
