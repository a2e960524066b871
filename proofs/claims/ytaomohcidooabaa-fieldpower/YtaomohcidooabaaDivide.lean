/- What field.Inverse and field.Divide answer for every byte, and that the statements' own beginning answers true. -/
import Derived.Test.YtaomohcidooabaaLog
namespace Go.Proofs.Ytaomohcidooabaa
open Go.ChangeShapes Go.WideShapes Go.ChangeAt Go.RowKit
theorem neg_turn {l : Nat} (h : l < 255) : Gf.pw ((-(l : Int)) % 255).toNat = Gf.pw (255 - l) := by
  have e : ((-(l : Int)) % 255).toNat = (255 - l) % 255 := by omega
  rw [e, Gf.pw_mod]
theorem ret_two {k k' : IntKind} {a b a' b' : Int} (h : a = b) (h' : a' = b') : Ending.returned (.tuple #[.int k a, .int k' a']) = .returned (.tuple #[.int k b, .int k' b']) := by rw [h, h']
theorem inverse_zero (w : World) :
    Calls Try.prog 10 #[.int .u8 0] w fun e w' => e = .returned (.tuple #[.int .u8 0, .int .i64 5]) ∧ Below w.heap.size w w' := by
  go_enter Try.func10, Try.ntmps10
  go_wp2_with fail
  refine (log_any 0 _ (by omega) (by omega)).mono ?_
  rintro e w1 ⟨rfl, hb⟩
  rw [if_pos rfl]
  go_wp2_with fail
  go_ret2
  exact ⟨rfl, hb⟩
theorem inverse_any (a : Int) (w : World) (ha : 0 < a) (ha' : a ≤ 255) :
    Calls Try.prog 10 #[.int .u8 a] w fun e w' => e = .returned (.tuple #[.int .u8 (Gf.inv a.toNat), .int .i64 0]) ∧ Below w.heap.size w w' := by
  have hl := Gf.lg_lt (a := a.toNat) (by omega) (by omega)
  have HE : Hid (Gf.pw ((-(Gf.lg a.toNat : Int)) % 255).toNat = Gf.pw (255 - Gf.lg a.toNat)) := neg_turn hl
  go_enter Try.func10, Try.ntmps10
  go_wp2_with fail
  refine (log_any a _ (by omega) (by omega)).mono ?_
  rintro e w1 ⟨rfl, hb⟩
  rw [if_neg (by omega)]
  go_wp2_with fail
  refine (power_any _ _).mono ?_
  rintro e w2 ⟨rfl, hb2⟩
  go_wp2_with fail
  go_ret2
  exact ⟨ret_two (congrArg _ HE.out) rfl, hb.trans (hb2.mono hb.size)⟩
theorem divide_zero (a : Int) (w : World) :
    Calls Try.prog 11 #[.int .u8 a, .int .u8 0] w fun e w' => e = .returned (.tuple #[.int .u8 0, .int .i64 5]) ∧ Below w.heap.size w w' := by
  go_enter Try.func11, Try.ntmps11
  go_wp2_with fail
  refine (inverse_zero _).mono ?_
  rintro e w1 ⟨rfl, hb⟩
  go_wp2_with fail
  go_ret2
  exact ⟨rfl, hb⟩
theorem divide_any (a b : Int) (w : World) (ha : 0 ≤ a) (ha' : a ≤ 255) (hb : 0 < b) (hb' : b ≤ 255) :
    Calls Try.prog 11 #[.int .u8 a, .int .u8 b] w fun e w' => e = .returned (.tuple #[.int .u8 (Gf.gm a.toNat (Gf.inv b.toNat)), .int .i64 0]) ∧ Below w.heap.size w w' := by
  have hi := Gf.inv_lt b.toNat
  go_enter Try.func11, Try.ntmps11
  go_wp2_with fail
  refine (inverse_any b _ (by omega) (by omega)).mono ?_
  rintro e w1 ⟨rfl, hb⟩
  go_wp2_with fail
  refine (mul_any _ _ _ (by omega) (by omega) (by omega) (by omega)).mono ?_
  rintro e w2 ⟨rfl, rfl⟩
  go_wp2_with fail
  go_ret2
  exact ⟨rfl, hb⟩
set_option maxHeartbeats 400000 in
theorem begun_any (w : World) :
    Calls Try.prog 14 #[] w fun e w' => e = .returned (.bool true) ∧ Below w.heap.size w w' := by
  have c1 : Gf.lg (29 : Int).toNat = 8 := by decide
  have c2 : Gf.inv (2 : Int).toNat = 142 := by decide +kernel
  have c3 : Gf.gm (128 : Int).toNat (2 : Int).toNat = 29 := by decide +kernel
  have c4 : Gf.pw ((8 : Int) % 255).toNat = 29 := by decide
  have c5 : Gf.pw (((-1) : Int) % 255).toNat = 142 := by decide
  have H : Hid (Gf.lg (29 : Int).toNat = 8 ∧ Gf.inv (2 : Int).toNat = 142 ∧ Gf.gm (128 : Int).toNat (2 : Int).toNat = 29 ∧ Gf.pw ((8 : Int) % 255).toNat = 29 ∧ Gf.pw (((-1) : Int) % 255).toNat = 142) := ⟨c1, c2, c3, c4, c5⟩
  clear c1 c2 c3 c4 c5
  go_enter Try.func14, Try.ntmps14
  go_wp2_with fail
  refine (log_any 29 _ (by omega) (by omega)).mono ?_
  rintro e w1 ⟨rfl, hb1⟩
  rw [if_neg (by omega), H.out.1]
  go_wp2_with fail
  refine (inverse_any 2 _ (by omega) (by omega)).mono ?_
  rintro e w2 ⟨rfl, hb2⟩
  rw [H.out.2.1]
  go_wp2_with fail
  refine (divide_zero 5 _).mono ?_
  rintro e w3 ⟨rfl, hb3⟩
  go_wp2_with fail
  refine (mul_any 128 2 _ (by omega) (by omega) (by omega) (by omega)).mono ?_
  rintro e w4 ⟨rfl, rfl⟩
  rw [H.out.2.2.1]
  go_wp2_with fail
  refine (power_any 8 _).mono ?_
  rintro e w5 ⟨rfl, hb5⟩
  rw [H.out.2.2.2.1]
  go_wp2_with fail
  refine (power_any (-1) _).mono ?_
  rintro e w6 ⟨rfl, hb6⟩
  rw [H.out.2.2.2.2]
  go_wp2_with fail
  go_ret
  have h2 := hb1.trans (hb2.mono hb1.size)
  have h3 := h2.trans (hb3.mono h2.size)
  have h5 := h3.trans (hb5.mono h3.size)
  have h6 := h5.trans (hb6.mono h5.size)
  exact ⟨rfl, h6⟩
end Go.Proofs.Ytaomohcidooabaa
