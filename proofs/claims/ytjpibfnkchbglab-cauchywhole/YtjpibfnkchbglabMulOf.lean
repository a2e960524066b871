/- What the document's own product answers, for every two bytes: the product of the field. -/
import Derived.Test.YtjpibfnkchbglabDivide
import Derived.Test.YtjpibfnkchbglabGf2
namespace Go.Proofs.Ytjpibfnkchbglab
open Go.ChangeShapes Go.WideShapes Go.ChangeAt Go.RowKit
theorem bit_test (A I : Nat) : (((A : Int) / 2 ^ I).tmod 2 == 1) = A.testBit I := by
  have e : ((A : Int) / 2 ^ I).tmod 2 = ((A / 2 ^ I % 2 : Nat) : Int) := by
    rw [Int.tmod_eq_emod_of_nonneg (Int.ediv_nonneg (by omega) (Int.le_of_lt (Int.pow_pos (by decide))))]
    simp
  rw [e, Nat.testBit_eq_decide_div_mod_eq]
  by_cases h : A / 2 ^ I % 2 = 1
  · simp [h]
  · have : A / 2 ^ I % 2 = 0 := by omega
    simp [this]
theorem wrap_pow {n : Nat} (h : n < 15) : wrap64 (2 ^ n) = ((2 ^ n : Nat) : Int) := by
  have h1 : 2 ^ n < 2 ^ 15 := Nat.pow_lt_pow_right (by decide) h
  have h2 : ((2 : Int) ^ n) = ((2 ^ n : Nat) : Int) := by simp
  rw [h2]
  clear h2
  generalize 2 ^ n = m at *
  simp only [wrap64]
  omega
theorem xor_poly {P n : Nat} (hP : P < 32768) (h : n < 7) : bits .xor .i64 (P : Int) (wrap64 (285 * 2 ^ n)) = ((P ^^^ 285 * 2 ^ n : Nat) : Int) := by
  have h1 : 2 ^ n ≤ 2 ^ 6 := Nat.pow_le_pow_right (by decide) (by omega)
  have h2 : ((2 : Int) ^ n) = ((2 ^ n : Nat) : Int) := by simp
  rw [h2]
  clear h2
  generalize 2 ^ n = m at *
  have e : wrap64 (285 * (m : Int)) = ((285 * m : Nat) : Int) := by
    simp only [wrap64]
    omega
  rw [e, i64_xor P (285 * m) (by omega) (by omega)]
theorem xor_pow {P n : Nat} (hP : P < 32768) (h : n < 15) : bits .xor .i64 (P : Int) (wrap64 (2 ^ n)) = ((P ^^^ 2 ^ n : Nat) : Int) := by
  have h1 : 2 ^ n < 2 ^ 15 := Nat.pow_lt_pow_right (by decide) h
  rw [wrap_pow h, i64_xor P (2 ^ n) (by omega) (by omega)]
set_option maxHeartbeats 1000000 in
theorem mulOf_any (A B : Nat) (w : World) (ha : A ≤ 255) (hb : B ≤ 255) :
    Calls Try.prog 73 #[.int .u8 A, .int .u8 B] w fun e w' => e = .returned (.int .u8 (Gf.gm A B)) ∧ w' = w := by
  go_enter Try.func73, Try.ntmps73
  go_wp2_with fail
  go_loop [5, 6] (fun p i => ∃ I : Nat, I ≤ 8 ∧ i = .int .i64 I ∧ p = .int .i64 (Gf.outp A B I)) (fun _ i => 8 - (intOf i).toNat)
  case atStart => exact ⟨0, by omega, rfl, rfl⟩
  case round =>
    obtain ⟨I, hI, rfl, rfl⟩ := hrel
    have hO := Gf.outp_lt (a := A) (b := B) I hI
    by_cases hlt : I < 8
    · go_wp2_with fail
      go_loop [5, 7] (fun p k => ∃ K : Nat, K ≤ 8 ∧ k = .int .i64 K ∧ p = .int .i64 (Gf.inn A B I K (Gf.outp A B I))) (fun _ k => 8 - (intOf k).toNat)
      case atStart => exact ⟨0, by omega, rfl, rfl⟩
      case round =>
        obtain ⟨K, hK, rfl, rfl⟩ := hrel
        have hN := Gf.inn_lt (a := A) (b := B) hlt K _ hK hO
        by_cases hlt' : K < 8
        · have tA := bit_test A I
          have tB := bit_test B K
          have hx := xor_pow (n := I + K) hN (by omega)
          have hs : Gf.inn A B I (K + 1) (Gf.outp A B I) = if A.testBit I && B.testBit K then Gf.inn A B I K (Gf.outp A B I) ^^^ 2 ^ (I + K) else Gf.inn A B I K (Gf.outp A B I) := rfl
          have HS : Hid (Gf.inn A B I (K + 1) (Gf.outp A B I) = if A.testBit I && B.testBit K then Gf.inn A B I K (Gf.outp A B I) ^^^ 2 ^ (I + K) else Gf.inn A B I K (Gf.outp A B I)) := hs
          clear hs
          cases cA : A.testBit I
          · rw [cA] at tA HS
            go_wp2_with fail
            go_round
            case rel => exact ⟨K + 1, by omega, by go_num, by rw [HS.out]; rfl⟩
            case measure => simp [intOf]; omega
          · cases cB : B.testBit K
            · rw [cA] at tA HS
              rw [cB] at tB HS
              go_wp2_with fail
              go_round
              case rel => exact ⟨K + 1, by omega, by go_num, by rw [HS.out]; rfl⟩
              case measure => simp [intOf]; omega
            · rw [cA] at tA HS
              rw [cB] at tB HS
              go_wp2_with fail
              go_round
              case rel => exact ⟨K + 1, by omega, by go_num, by rw [HS.out]; rfl⟩
              case measure => simp [intOf]; omega
        · have hK' : K = 8 := by omega
          subst hK'
          go_wp2_with fail
          go_round
          case rel => exact ⟨I + 1, by omega, by go_num, rfl⟩
          case measure => simp [intOf]; omega
    · have hI' : I = 8 := by omega
      subst hI'
      clear hlt hI
      have HE := Gf.mo_eq (a := A) (b := B) (by omega) (by omega)
      unfold Gf.mo at HE
      have HL := Gf.mo_lt (a := A) (b := B) (by omega) (by omega)
      generalize Gf.outp A B 8 = P at *
      have H : Hid (Gf.rd 7 P = Gf.gm A B) := HE
      clear HE
      go_wp2_with fail
      go_loop [5, 8] (fun p n => ∃ J N : Nat, J ≤ 7 ∧ J + N = 14 ∧ n = .int .i64 N ∧ p = .int .i64 (Gf.rd J P)) (fun _ n => (intOf n).toNat)
      case atStart => exact ⟨0, 14, by omega, by omega, rfl, rfl⟩
      case round =>
        obtain ⟨J, N, hJ, hN, rfl, rfl⟩ := hrel
        have hR := Gf.rd_lt hO J hJ
        by_cases hlt : J < 7
        · have tR := bit_test (Gf.rd J P) N
          have hx := xor_poly (n := N - 8) hR (by omega)
          have hs : Gf.rd (J + 1) P = if (Gf.rd J P).testBit (14 - J) then Gf.rd J P ^^^ (285 * 2 ^ (6 - J)) else Gf.rd J P := rfl
          rw [show 14 - J = N by omega, show 6 - J = N - 8 by omega] at hs
          have HS : Hid (Gf.rd (J + 1) P = if (Gf.rd J P).testBit N then Gf.rd J P ^^^ (285 * 2 ^ (N - 8)) else Gf.rd J P) := hs
          have HN : Hid (J + N = 14) := hN
          have hN8 : 8 ≤ N := by omega
          have hN14 : N ≤ 14 := by omega
          clear hs hN
          cases cR : (Gf.rd J P).testBit N
          · rw [cR] at tR HS
            go_wp2_with fail
            go_round
            case rel => exact ⟨J + 1, N - 1, by omega, by have := HN.out; omega, by go_num, by rw [HS.out]; rfl⟩
            case measure => simp [intOf]; omega
          · rw [cR] at tR HS
            go_wp2_with fail
            go_round
            case rel => exact ⟨J + 1, N - 1, by omega, by have := HN.out; omega, by go_num, by rw [HS.out]; rfl⟩
            case measure => simp [intOf]; omega
        · have hJ' : J = 7 := by omega
          subst hJ'
          have hN' : N = 7 := by omega
          subst hN'
          rw [H.out] at HL ⊢
          clear hlt hJ hN
          go_wp2_with fail
          go_ret
          exact ⟨rfl, rfl⟩
end Go.Proofs.Ytjpibfnkchbglab
