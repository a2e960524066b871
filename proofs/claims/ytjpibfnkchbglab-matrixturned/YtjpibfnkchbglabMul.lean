/- What field.Mul answers: the product of the field of 256, for every two bytes. -/
import Derived.Test.YtjpibfnkchbglabRows
import Derived.Test.YtjpibfnkchbglabGf
import Derived.WalkKit
import Derived.ProofKit
import Derived.Deep.MidRow
namespace Go.Proofs.Ytjpibfnkchbglab
open Go.ChangeShapes Go.WideShapes Go.ChangeAt Go.RowKit
theorem ret_int {k : IntKind} {a b : Int} (h : a = b) : Ending.returned (.int k a) = .returned (.int k b) := by rw [h]
theorem i64_xor (a b : Nat) (ha : a < 65536) (hb : b < 65536) : bits .xor .i64 (a : Int) (b : Int) = ((a ^^^ b : Nat) : Int) := by
  have h : a ^^^ b < 65536 := Nat.xor_lt_two_pow (n := 16) ha hb
  have e : (BitVec.ofInt 64 (a : Int) ^^^ BitVec.ofInt 64 (b : Int)).toNat = a ^^^ b := by
    rw [BitVec.toNat_xor, ofInt_u64 a (by omega), ofInt_u64 b (by omega)]
  show IntKind.i64.wrap (((BitVec.ofInt 64 (a : Int) ^^^ BitVec.ofInt 64 (b : Int)).toNat : Nat) : Int) = _
  rw [e, IntKind.wrap_i64]
  omega
theorem and1 (B : Nat) (h : B ≤ 255) : (bits .and .u8 (B : Int) 1 != 0) = decide (B % 2 = 1) := by
  have e := u8_and_nat B 1 (by omega) (by omega)
  rw [nat_mask1] at e
  rw [show (1 : Int) = ((1 : Nat) : Int) from rfl, e]
  rcases Nat.mod_two_eq_zero_or_one B with h' | h' <;> simp [h']
theorem and256_chk : ∀ S : Fin 256, (bits .and .i64 ((S.val : Int) * 2) 256 != 0) = decide (128 ≤ S.val) := by decide +kernel
theorem and256 (S : Nat) (h : S ≤ 255) : (bits .and .i64 ((S : Int) * 2) 256 != 0) = decide (128 ≤ S) := and256_chk ⟨S, by omega⟩
theorem xor285 (S : Nat) (h : S ≤ 255) : bits .xor .i64 ((S : Int) * 2) 285 = ((S * 2 ^^^ 285 : Nat) : Int) := by
  have e := i64_xor (S * 2) 285 (by omega) (by omega)
  rw [← e]; simp
theorem mul_next {f B P S G : Nat} (h2 : P ≤ 255) (h3 : S ≤ 255) (h : B < 2 ^ (f + 1)) (e : Gf.gmL (f + 1) P S B = G) (P' S' : Nat)
    (hP : P' = if B % 2 = 1 then P ^^^ S else P) (hS : S' = if S < 128 then S * 2 else S * 2 ^^^ 285) :
    Hid (B / 2 < 2 ^ f ∧ P' ≤ 255 ∧ S' ≤ 255 ∧ Gf.gmL f P' S' (B / 2) = G) := by
  have hs := Gf.xt_lt (s := S) (by omega)
  have hx := Gf.xlt (a := P) (b := S) (by omega) (by omega)
  have e' : S' = Gf.xt S := hS
  unfold Gf.gmL at e
  rw [← hP, ← e'] at e
  refine ⟨by rw [Nat.pow_succ] at h; omega, ?_, by omega, e⟩
  rw [hP]
  split <;> omega
theorem mul_nat (A b0 : Nat) (w : World) (ha : A ≤ 255) (hb : b0 ≤ 255) :
    Calls Try.prog 42 #[.int .u8 A, .int .u8 b0] w fun e w' => e = .returned (.int .u8 (Gf.gm A b0)) ∧ w' = w := by
  go_enter Try.func42, Try.ntmps42
  go_wp2
  go_loop [1, 5, 6] (fun b p s => ∃ f B P S : Nat, b = .int .u8 B ∧ p = .int .i64 P ∧ s = .int .i64 S ∧ B ≤ 255 ∧ P ≤ 255 ∧ S ≤ 255 ∧ Hid (B < 2 ^ f ∧ Gf.gmL f P S B = Gf.gm A b0)) (fun b _ _ => (intOf b).toNat)
  case atStart => exact ⟨8, b0, 0, A, rfl, rfl, rfl, hb, by omega, ha, ⟨by omega, rfl⟩⟩
  case round =>
    obtain ⟨f, B, P, S, rfl, rfl, rfl, h1, h2, h3, H⟩ := hrel
    by_cases hB : B = 0
    · have hB' : ((B : Int) != 0) = false := by simp [hB]
      have e := H.out.2
      rw [hB, Gf.gmL_zero] at e
      have K : Hid (P = Gf.gm A b0) := e
      clear e H hB
      go_wp2
      go_ret
      exact ⟨ret_int (congrArg _ K.out), rfl⟩
    · have hB' : ((B : Int) != 0) = true := by simp [hB]
      have hf : ∃ f', f = f' + 1 := by
        cases f with
        | zero => exact absurd H.out.1 (by omega)
        | succ f => exact ⟨f, rfl⟩
      obtain ⟨f, rfl⟩ := hf
      have q1 := and1 B h1
      have q2 := and256 S h3
      have q3 := xor285 S h3
      have q4 := i64_xor P S (by omega) (by omega)
      by_cases c1 : B % 2 = 1 <;> by_cases c2 : 128 ≤ S
      · have K := mul_next h2 h3 H.out.1 H.out.2 (P ^^^ S) (S * 2 ^^^ 285) (by rw [if_pos c1]) (by rw [if_neg (by omega)])
        simp only [c1, c2, decide_true] at q1 q2
        clear c1 c2 H
        go_wp2
        go_round
        case rel => exact ⟨f, B / 2, _, _, by go_num, rfl, rfl, by omega, K.out.2.1, K.out.2.2.1, ⟨K.out.1, K.out.2.2.2⟩⟩
        case measure => simp [intOf]; omega
      · have K := mul_next h2 h3 H.out.1 H.out.2 (P ^^^ S) (S * 2) (by rw [if_pos c1]) (by rw [if_pos (by omega)])
        simp only [c1, c2, decide_true, decide_false] at q1 q2
        clear c1 c2 H
        go_wp2
        go_round
        case rel => exact ⟨f, B / 2, _, S * 2, by go_num, rfl, by go_num, by omega, K.out.2.1, K.out.2.2.1, ⟨K.out.1, K.out.2.2.2⟩⟩
        case measure => simp [intOf]; omega
      · have K := mul_next h2 h3 H.out.1 H.out.2 P (S * 2 ^^^ 285) (by rw [if_neg c1]) (by rw [if_neg (by omega)])
        simp only [c1, c2, decide_true, decide_false] at q1 q2
        clear c1 c2 H
        go_wp2
        go_round
        case rel => exact ⟨f, B / 2, P, _, by go_num, rfl, rfl, by omega, K.out.2.1, K.out.2.2.1, ⟨K.out.1, K.out.2.2.2⟩⟩
        case measure => simp [intOf]; omega
      · have K := mul_next h2 h3 H.out.1 H.out.2 P (S * 2) (by rw [if_neg c1]) (by rw [if_pos (by omega)])
        simp only [c1, c2, decide_false] at q1 q2
        clear c1 c2 H
        go_wp2
        go_round
        case rel => exact ⟨f, B / 2, P, S * 2, by go_num, rfl, by go_num, by omega, K.out.2.1, K.out.2.2.1, ⟨K.out.1, K.out.2.2.2⟩⟩
        case measure => simp [intOf]; omega
theorem mul_any (a b : Int) (w : World) (ha : 0 ≤ a) (ha' : a ≤ 255) (hb : 0 ≤ b) (hb' : b ≤ 255) :
    Calls Try.prog 42 #[.int .u8 a, .int .u8 b] w fun e w' => e = .returned (.int .u8 (Gf.gm a.toNat b.toNat)) ∧ w' = w := by
  obtain ⟨A, rfl⟩ := Int.eq_ofNat_of_zero_le ha
  obtain ⟨B, rfl⟩ := Int.eq_ofNat_of_zero_le hb
  rw [Int.toNat_natCast, Int.toNat_natCast]
  exact mul_nat A B w (by omega) (by omega)
end Go.Proofs.Ytjpibfnkchbglab
