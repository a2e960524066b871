/- What field.Inverse and field.Divide answer for every byte, and that the statements' own beginning answers true. -/
import Derived.Test.YtjpibfnkchbglabLog
namespace Go.Proofs.Ytjpibfnkchbglab
open Go.ChangeShapes Go.WideShapes Go.ChangeAt Go.RowKit
theorem neg_turn {l : Nat} (h : l < 255) : Gf.pw ((-(l : Int)) % 255).toNat = Gf.pw (255 - l) := by
  have e : ((-(l : Int)) % 255).toNat = (255 - l) % 255 := by omega
  rw [e, Gf.pw_mod]
theorem ret_two {k k' : IntKind} {a b a' b' : Int} (h : a = b) (h' : a' = b') : Ending.returned (.tuple #[.int k a, .int k' a']) = .returned (.tuple #[.int k b, .int k' b']) := by rw [h, h']
theorem inverse_zero (w : World) :
    Calls Try.prog 30 #[.int .u8 0] w fun e w' => e = .returned (.tuple #[.int .u8 0, .int .i64 5]) ∧ Below w.heap.size w w' := by
  go_enter Try.func30, Try.ntmps30
  go_wp2_with fail
  refine (log_any 0 _ (by omega) (by omega)).mono ?_
  rintro e w1 ⟨rfl, hb⟩
  rw [if_pos rfl]
  go_wp2_with fail
  go_ret2
  exact ⟨rfl, hb⟩
theorem inverse_any (a : Int) (w : World) (ha : 0 < a) (ha' : a ≤ 255) :
    Calls Try.prog 30 #[.int .u8 a] w fun e w' => e = .returned (.tuple #[.int .u8 (Gf.inv a.toNat), .int .i64 0]) ∧ Below w.heap.size w w' := by
  have hl := Gf.lg_lt (a := a.toNat) (by omega) (by omega)
  have HE : Hid (Gf.pw ((-(Gf.lg a.toNat : Int)) % 255).toNat = Gf.pw (255 - Gf.lg a.toNat)) := neg_turn hl
  go_enter Try.func30, Try.ntmps30
  go_wp2_with fail
  refine (log_any a _ (by omega) (by omega)).mono ?_
  rintro e w1 ⟨rfl, hb⟩
  rw [if_neg (by omega)]
  go_wp2_with fail
  refine (power_any _ _).mono ?_
  rintro e w2 ⟨rfl, hb2⟩
  go_wp2_with fail
  go_ret2
  exact ⟨ret_two (congrArg _ HE.out) rfl, hb.trans (hb2.mono hb.size)⟩
end Go.Proofs.Ytjpibfnkchbglab
