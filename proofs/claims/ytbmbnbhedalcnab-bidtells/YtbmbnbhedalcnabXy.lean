/- What becomes of a bid: the cases. -/
import Derived.Test.YtbmbnbhedalcnabXw
namespace Go.Proofs.Ytbmbnbhedalcnab
open Go.RowKit
abbrev heardN (hd n : Int) : Int := IntKind.wrap .u64 (BitVec.toNat (BitVec.ofInt (IntKind.bits .u64) hd ||| BitVec.ofInt (IntKind.bits .u64) (shlV .u64 1 n)))
theorem enough_e {m : Nat} {g : Nat → List Value} {need s : Int} (h : x0_enough m g need s = true) : x1_enough m g need s = 0 := by
  unfold x0_enough at h
  unfold x1_enough
  have eta : (wsOf m fun j => g j) = wsOf m g := rfl
  rw [eta] at h ⊢
  cases hq : (qE (wsOf m g) need != (0 : Int)) with
  | true => rw [hq] at h; cases h
  | false =>
    rw [hq] at h
    have hq : qE (wsOf m g) need = 0 := by simpa using hq
    have h1 := (qE_m hq).2.2.2.1
    have h : decide (sV (wsOf m g) s ≥ need) = true := h
    have h := of_decide_eq_true h
    show sE (wsOf m g) s = 0
    unfold sV at h
    split at h
    · assumption
    · omega
theorem mg_two {t w : Int} {s : ByteArray} {x y : Int} {z : ByteArray} (h1 : cck ((t, w), s) = 0) (h2 : cck ((x, y), z) = 0) : mgV [((t, w), s), ((x, y), z)] = if slt (t, w) (x, y) = true then ((x, y), z) else ((t, w), s) := by
  have hc : clE [((t, w), s), ((x, y), z)] = 0 := clE_of (by show 2 ≤ 12; decide) fun c hc => by
    rcases List.mem_cons.1 hc with rfl | hc
    · exact h1
    · rw [List.mem_singleton.1 hc]; exact h2
  unfold mgV
  rw [if_pos hc]
  rfl
theorem cbid_c {m : Nat} {g : Nat → List Value} {need a p : Int} {o v : ByteArray} {t w : Int} {s : ByteArray} {hd : Int} (h : x_cbid m g need a p o v t w s hd = 0) : cck ((t, w), s) = 0 := by
  unfold x_cbid at h
  have key : ∀ {b : Bool} {c r : Int}, c ≠ 0 → (bif b then c else r) = 0 → r = 0 := fun {b c r} hc h => by
    cases b
    · exact h
    · exact absurd h hc
  have h : (bif qE (wsOf m g) need != (0 : Int) then qE (wsOf m g) need else _) = 0 := h
  cases hq : (qE (wsOf m g) need != (0 : Int)) with
  | true => rw [hq] at h; have hq : qE (wsOf m g) need ≠ 0 := by simpa using hq
            exact absurd h hq
  | false =>
    rw [hq] at h
    simp only [cond_false] at h
    have h := key (by decide) h
    have h := key (by decide) h
    have h := key (by decide) h
    have h := key (by decide) h
    have h := key (by decide) h
    have h := key (by decide) h
    cases hc : (cck ((t, w), s) != (0 : Int)) with
    | true =>
      rw [hc] at h
      exact h
    | false => simpa using hc
section
variable {m : Nat} {g : Nat → List Value} {need no a p : Int} {o v : ByteArray} {t w : Int} {s : ByteArray} {hd k bd n x y : Int} {z : ByteArray}
theorem wait_p (h : x_wait a p hd m no k bd n x y = true) : p = 1 ∨ p = 2 := by
  unfold x_wait at h
  cases h1 : (p == 1) with
  | true => exact .inl (by simpa using h1)
  | false =>
    cases h2 : (p == 2) with
    | true => exact .inr (by simpa using h2)
    | false =>
      rw [h1, h2] at h
      revert h
      cases (bd != no) <;> cases decide (n ≥ (m : Int)) <;> cases (IntKind.wrap IntKind.u64 (↑(BitVec.toNat (BitVec.ofInt (IntKind.bits IntKind.u64) (shrV IntKind.u64 hd n) &&& BitVec.ofInt (IntKind.bits IntKind.u64) (1 : Int))) : Int) == (1 : Int)) <;> intro h <;> cases h
/-- WHAT BECOMES OF A BID: an error; nothing; heard; done; put. -/
theorem hear_cases (m : Nat) (g : Nat → List Value) (need no a p : Int) (o v : ByteArray) (t w : Int) (s : ByteArray) (hd k bd n x y : Int) (z : ByteArray) :
    (x9_hear m g need no a p o v t w s hd k bd n x y z ≠ 0 ∧ n8_hear m g need no a p o v t w s hd k bd n x y z = 0)
    ∨ (x9_hear m g need no a p o v t w s hd k bd n x y z = 0 ∧ x1_hear m g need no a p o v t w s hd k bd n x y z = p ∧ x3_hear m g need no a p o v t w s hd k bd n x y z = v ∧ n8_hear m g need no a p o v t w s hd k bd n x y z = 0)
    ∨ (x9_hear m g need no a p o v t w s hd k bd n x y z = 0 ∧ (m ≤ 12 ∧ 0 < m) ∧ 0 ≤ n ∧ x0_enough m g need (heardN hd n) = true ∧ x0_hear m g need no a p o v t w s hd k bd n x y z = a ∧ x2_hear m g need no a p o v t w s hd k bd n x y z = o ∧
      ((p = 2 ∧ x1_hear m g need no a p o v t w s hd k bd n x y z = 3 ∧ x3_hear m g need no a p o v t w s hd k bd n x y z = v ∧ n8_hear m g need no a p o v t w s hd k bd n x y z = 0)
      ∨ (p = 1 ∧ x1_hear m g need no a p o v t w s hd k bd n x y z = 2 ∧ n8_hear m g need no a p o v t w s hd k bd n x y z = m ∧
        ∃ d, x3_hear m g need no a p o v t w s hd k bd n x y z = d ∧ g8_hear m g need no a p o v t w s hd k bd n x y z = toC 3 a no d ∧ d = (if slt (t, w) (x, y) = true then x_choice o x y z else x_choice o t w s)))) := by
  have eta : (fun j => g j) = g := rfl
  cases h0 : (x_bchk a p o v t w s hd m g need no != (0 : Int)) with
  | true =>
    left
    refine ⟨?_, by simp only [n8_hear, eta, h0, cond_true]⟩
    simp only [x9_hear, eta, h0, cond_true]
    simpa using h0
  | false =>
    cases h1 : (x_cvote k bd n x y z != (0 : Int)) with
    | true =>
      left
      refine ⟨?_, by simp only [n8_hear, eta, h0, h1, cond_true, cond_false]⟩
      simp only [x9_hear, eta, h0, h1, cond_true, cond_false]
      simpa using h1
    | false =>
      cases h2 : x_wait a p hd m no k bd n x y with
      | false =>
        right; left
        simp only [x9_hear, x1_hear, x3_hear, n8_hear, eta, h0, h1, h2, Bool.not_false, cond_true, cond_false, and_self]
      | true =>
        cases h3 : x0_enough m g need (heardN hd n) with
        | false =>
          right; left
          simp only [x9_hear, x1_hear, x3_hear, n8_hear, eta, h0, h1, h2, h3, Bool.not_true, Bool.not_false, cond_true, cond_false, Bool.cond_self, and_self]
        | true =>
          right; right
          have hb := bchk_q h0
          have hq := cbid_q hb.2
          have hm := qE_m hq
          rw [ws_len] at hm
          have hv := cvote_yes (by simpa using h1)
          rcases wait_p h2 with rfl | rfl
          · have hc := cbid_c hb.2
            have hmg := mg_two hc hv
            have e1 : ((1 : Int) == 1) = true := rfl
            have e2 : ((1 : Int) == 2) = false := rfl
            refine ⟨?_, ⟨hm.1, hm.2.1⟩, cvote_n h1, rfl, ?_, ?_, .inr ⟨rfl, ?_, ?_, _, rfl, ?_, ?_⟩⟩
            · simp only [x9_hear, eta, h0, h1, h2, h3, e1, e2, Bool.not_true, cond_true, cond_false]
            · simp only [x0_hear, eta, h0, h1, h2, h3, e1, e2, Bool.not_true, cond_true, cond_false]
            · simp only [x2_hear, eta, h0, h1, h2, h3, e1, e2, Bool.not_true, cond_true, cond_false]
            · simp only [x1_hear, eta, h0, h1, h2, h3, e1, e2, Bool.not_true, cond_true, cond_false]
            · simp only [n8_hear, eta, h0, h1, h2, h3, e1, e2, Bool.not_true, cond_true, cond_false]
            · simp only [g8_hear, x3_hear, eta, h0, h1, h2, h3, e1, e2, Bool.not_true, cond_true, cond_false]
            · simp only [x3_hear, eta, h0, h1, h2, h3, e1, e2, Bool.not_true, cond_true, cond_false]
              rw [hmg]
              split <;> rfl
          · have e1 : ((2 : Int) == 1) = false := rfl
            have e2 : ((2 : Int) == 2) = true := rfl
            refine ⟨?_, ⟨hm.1, hm.2.1⟩, cvote_n h1, rfl, ?_, ?_, .inl ⟨rfl, ?_, ?_, ?_⟩⟩
            · simp only [x9_hear, eta, h0, h1, h2, h3, e1, e2, Bool.not_true, cond_true, cond_false]
            · simp only [x0_hear, eta, h0, h1, h2, h3, e1, e2, Bool.not_true, cond_true, cond_false]
            · simp only [x2_hear, eta, h0, h1, h2, h3, e1, e2, Bool.not_true, cond_true, cond_false]
            · simp only [x1_hear, eta, h0, h1, h2, h3, e1, e2, Bool.not_true, cond_true, cond_false]
            · simp only [x3_hear, eta, h0, h1, h2, h3, e1, e2, Bool.not_true, cond_true, cond_false]
            · simp only [n8_hear, eta, h0, h1, h2, h3, e1, e2, Bool.not_true, cond_true, cond_false]
end
end Go.Proofs.Ytbmbnbhedalcnab
