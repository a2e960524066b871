/- Turned twice: the mathematics. -/
import Derived.Test.YtnpdpbiikejflaaEk
namespace Go.Proofs.Ytnpdpbiikejflaa
open Go.RowKit
theorem bif_zero {b : Bool} {c x : Int} (hc : c ≠ 0) (h : (bif b then c else x) = 0) : b = false ∧ x = 0 := by
  cases b
  · exact ⟨rfl, h⟩
  · exact absurd h hc
theorem tuE_zero {m : Nat} {g : Nat → List Value} {n : Int} (h : tuE m g n = 0) : (chE m g != 0) = false ∧ m ≠ 0 ∧ m ≠ 64 ∧ 0 ≤ n ∧ n < 12 ∧ tuX m g n ≠ 0 := by
  unfold tuE at h
  cases hc : (chE m g != 0) with
  | true =>
    rw [hc] at h
    have : chE m g ≠ 0 := by simpa using hc
    exact absurd h this
  | false =>
    rw [hc] at h
    obtain ⟨h1, h⟩ := bif_zero (c := 5) (by decide) h
    obtain ⟨h2, h⟩ := bif_zero (c := 3) (by decide) h
    obtain ⟨h3, h⟩ := bif_zero (c := 3) (by decide) h
    obtain ⟨h4, h⟩ := bif_zero (c := 2) (by decide) h
    obtain ⟨h5, h⟩ := bif_zero (c := 8) (by decide) h
    have h2 := of_decide_eq_false h2
    have h3 := of_decide_eq_false h3
    refine ⟨rfl, fun e => ?_, fun e => ?_, by omega, by omega, by simpa using h5⟩
    · subst e; cases h1
    · subst e; cases h4
theorem tuE_of {m : Nat} {g : Nat → List Value} {n : Int} (h0 : (chE m g != 0) = false) (h1 : m ≠ 0) (h2 : 0 ≤ n) (h3 : n < 12) : tuE m g n = bif Nat.beq m 64 then 2 else bif tuX m g n == 0 then 8 else 0 := by
  rw [tuE_3 h0 h1, show decide (n < 0) = false from decide_eq_false (by omega), show decide (n ≥ 12) = false from decide_eq_false (by omega)]
  rfl
theorem cnt_one (b : Nat) : ∀ k, cnt (fun i => decide (b = i)) k = if b < k then 1 else 0
  | 0 => rfl
  | k + 1 => by
    unfold cnt
    rw [cnt_one b k]
    by_cases e : b = k
    · subst e
      rw [if_neg (by omega), if_pos (by omega), decide_eq_true rfl]
      rfl
    · rw [decide_eq_false e]
      by_cases h : b < k
      · rw [if_pos h, if_pos (by omega)]; rfl
      · rw [if_neg h, if_neg (by omega)]; rfl
theorem pc_pow {b : Nat} (h : b < 64) : pc (2 ^ b) = 1 := by
  have : pc (2 ^ b) = cnt (fun i => decide (b = i)) 64 := cnt_congr fun i _ => Nat.testBit_two_pow
  rw [this, cnt_one, if_pos h]
theorem tuG_lo {m : Nat} {g : Nat → List Value} {n : Int} {j : Nat} (h : j < m) : tuG m g n j = g j := by
  unfold tuG
  rw [nbeq (show j ≠ m by omega)]
  rfl
theorem tuG_hi (m : Nat) (g : Nat → List Value) (n : Int) : tuG m g n m = [.int .i64 (m + 1 : Nat), .int .u64 (tuX m g n)] := by
  unfold tuG
  rw [show Nat.beq m m = true from Nat.beq_refl m]
  rfl
/-- a node in and out: an epoch more is right, and turned back it has the members of old -/
theorem turn_ok {m : Nat} {g : Nat → List Value} {n : Int} (hU : RU m g) (h : tuE m g n = 0) : tuN m g n = m + 1 ∧ RU (m + 1) (tuG m g n) ∧ (chE (m + 1) (tuG m g n) != 0) = false ∧ sameE (tuG m g n) g m = true ∧ tuX (m + 1) (tuG m g n) n = me (g (m - 1)) ∧ me (g (m - 1)) ≠ 0 := by
  obtain ⟨h0, h1, h2, h3, h4, h5⟩ := tuE_zero h
  obtain ⟨hm, hf⟩ := chE_le h0
  obtain ⟨b, rfl⟩ : ∃ b : Nat, n = b := ⟨n.toNat, by omega⟩
  obtain ⟨_, hl, hz⟩ := err_lt (firstE_last hf (by omega))
  obtain ⟨a, ea, ha64⟩ := (hU (m - 1) (by omega)).nat
  have hp : 2 ^ b < 4096 := Nat.pow_lt_pow_right (a := 2) (n := 12) (by decide) (by omega)
  have et : tuX m g b = ((a ^^^ 2 ^ b : Nat) : Int) := by
    unfold tuX
    rw [ea, shl_nat (by omega), xorI_nat ha64 (by omega)]
  have hx : a ^^^ 2 ^ b < 4096 := Nat.xor_lt_two_pow (n := 12) (show a < 4096 by omega) hp
  have mt : me (tuG m g b m) = tuX m g b := by rw [tuG_hi]; rfl
  refine ⟨by unfold tuN; rw [h]; rfl, fun j hj => ?_, ?_, sameE_of fun j hj => by rw [tuG_lo hj]; exact ⟨rfl, rfl⟩, ?_, hz⟩
  · by_cases e : j = m
    · subst e
      rw [mt, et]
      exact U_of (by omega)
    · rw [tuG_lo (by omega)]
      exact hU j (by omega)
  · have key : firstE (tuG m g b) (m + 1) = 0 := firstE_of fun j hj => by
      by_cases e : j = m
      · subst e
        have e1 := err1 (g := tuG j g b) (j := j) (by rw [tuG_hi]; show ((j + 1 : Nat) : Int) = _; omega) (by rw [mt, et]; omega) (by rw [mt]; exact h5)
        rw [e1, decide_eq_true (show 0 < j by omega), mt, et, tuG_lo (show j - 1 < j by omega), ea]
        simp only [Int.toNat_natCast]
        rw [show a ^^^ 2 ^ b ^^^ a = 2 ^ b from by rw [Nat.xor_comm a, xor_twice], pc_pow (by omega)]
        rfl
      · have hj' : j < m := by omega
        have e2 := (firstE_all hf j hj').1
        have : errAt (tuG m g b) j = errAt g j := by
          unfold errAt
          rw [tuG_lo hj', tuG_lo (show j - 1 < m by omega)]
        rw [this]
        exact e2
    have : chE (m + 1) (tuG m g b) = 0 := by
      unfold chE
      rw [decide_eq_false (show ¬ 64 < m + 1 by omega), key]
      rfl
    rw [this]
    rfl
  · unfold tuX
    rw [show m + 1 - 1 = m from rfl, mt, et, shl_nat (by omega), xorI_nat (by omega) (by omega), xor_twice, ea]
end Go.Proofs.Ytnpdpbiikejflaa
