/- What the document's own power, logarithm and quotient answer, for whatever they are handed. -/
import Derived.Test.YtjpibfnkchbglabMulOf
namespace Go.Proofs.Ytjpibfnkchbglab
open Go.ChangeShapes Go.WideShapes Go.ChangeAt Go.RowKit
theorem mulOf_int (a b : Int) (w : World) (ha : 0 ≤ a) (ha' : a ≤ 255) (hb : 0 ≤ b) (hb' : b ≤ 255) :
    Calls Try.prog 73 #[.int .u8 a, .int .u8 b] w fun e w' => e = .returned (.int .u8 (Gf.gm a.toNat b.toNat)) ∧ w' = w := by
  obtain ⟨A, rfl⟩ := Int.eq_ofNat_of_zero_le ha
  obtain ⟨B, rfl⟩ := Int.eq_ofNat_of_zero_le hb
  rw [Int.toNat_natCast, Int.toNat_natCast]
  exact mulOf_any A B w (by omega) (by omega)
theorem quotOf_zero (a : Int) (w : World) :
    Calls Try.prog 72 #[.int .u8 a, .int .u8 0] w fun e w' => e = .returned (.tuple #[.int .u8 0, .int .i64 5]) ∧ w' = w := by
  go_enter Try.func72, Try.ntmps72
  go_wp2_with fail
  go_ret2
  exact ⟨rfl, rfl⟩
set_option maxRecDepth 100000 in
set_option maxHeartbeats 400000 in
theorem quotOf_any (A B : Nat) (w : World) (ha : A ≤ 255) (h0 : 0 < B) (hb : B ≤ 255) :
    Calls Try.prog 72 #[.int .u8 A, .int .u8 B] w fun e w' => e = .returned (.tuple #[.int .u8 (Gf.gm A (Gf.inv B)), .int .i64 0]) ∧ w' = w := by
  have hi := Gf.inv_lt B
  have hq : Gf.gm A (Gf.inv B) < 256 := Gf.gm_lt (by omega)
  have HQ : Hid (Gf.gm (Gf.gm A (Gf.inv B)) B = A) := by
    show Gf.gm (Gf.gm A (Gf.inv B)) B = A
    rw [Gf.gm_assoc (by omega) hi, Gf.gm_inv (by omega) (by omega), Gf.gm_oneR (by omega)]
  have HU : Hid (∀ k, k < 256 → Gf.gm k B = A → k = Gf.gm A (Gf.inv B)) := by
    show ∀ k, k < 256 → Gf.gm k B = A → k = Gf.gm A (Gf.inv B)
    intro k hk e
    rw [← e, Gf.gm_assoc hk (by omega), Gf.gm_inv' (by omega) (by omega), Gf.gm_oneR hk]
  generalize Gf.gm A (Gf.inv B) = q at *
  have hB0 : ((B : Int) == 0) = false := by rw [beq_eq_false_iff_ne]; omega
  go_enter Try.func72, Try.ntmps72
  go_wp2_with fail
  go_loopw [6] (fun i w' => ∃ k : Nat, k ≤ q ∧ i = .int .i64 k ∧ w' = w) (fun i _ => 256 - (intOf i).toNat)
  case atStart => exact ⟨0, by omega, rfl, rfl⟩
  case round =>
    obtain ⟨k, hk, rfl, rfl⟩ := hrel
    by_cases hlt : k < q
    · have ht : ((Gf.gm k B : Int) == (A : Int)) = false := by
        rw [beq_eq_false_iff_ne]
        intro c
        have := HU.out k (by omega) (by omega)
        omega
      go_wp2_with fail
      refine (mulOf_int _ _ _ (by omega) (by omega) (by omega) (by omega)).mono ?_
      rintro e w2 ⟨rfl, rfl⟩
      rw [Int.toNat_natCast, Int.toNat_natCast]
      go_wp2_with fail
      go_roundw
      case rel => exact ⟨k + 1, by omega, by go_num, trivial⟩
      case measure => simp [intOf]; omega
    · have hk' : k = q := by omega
      subst hk'
      go_wp2_with fail
      refine (mulOf_int _ _ _ (by omega) (by omega) (by omega) (by omega)).mono ?_
      rintro e w2 ⟨rfl, rfl⟩
      rw [Int.toNat_natCast, Int.toNat_natCast, HQ.out]
      go_wp2_with fail
      go_ret2
      exact ⟨rfl, rfl⟩
theorem quotOf_int (a b : Int) (w : World) (ha : 0 ≤ a) (ha' : a ≤ 255) (hb : 0 < b) (hb' : b ≤ 255) :
    Calls Try.prog 72 #[.int .u8 a, .int .u8 b] w fun e w' => e = .returned (.tuple #[.int .u8 (Gf.gm a.toNat (Gf.inv b.toNat)), .int .i64 0]) ∧ w' = w := by
  obtain ⟨A, rfl⟩ := Int.eq_ofNat_of_zero_le ha
  obtain ⟨B, rfl⟩ := Int.eq_ofNat_of_zero_le (Int.le_of_lt hb)
  rw [Int.toNat_natCast, Int.toNat_natCast]
  exact quotOf_any A B w (by omega) (by omega) (by omega)
end Go.Proofs.Ytjpibfnkchbglab
