/- The plain mathematics of CAUCHY's matrices: nothing but nought is made nought of. -/
import Derived.Test.YtjpibfnkchbglabRank
namespace Go.Proofs.Ytjpibfnkchbglab
open Go.ChangeShapes Go.WideShapes Go.ChangeAt Go.RowKit Go.Shelf
theorem inv_ne {p : Nat} (hp : p < 256) (h0 : p ≠ 0) : Gf.inv p ≠ 0 := by
  intro e
  have := Gf.gm_inv hp h0
  rw [e, Gf.gm_zeroL] at this
  cases this
theorem inv_sum {p q : Nat} (hp : p < 256) (hq : q < 256) (p0 : p ≠ 0) (q0 : q ≠ 0) : Gf.inv p ^^^ Gf.inv q = Gf.gm (Gf.gm (Gf.inv p) (Gf.inv q)) (p ^^^ q) := by
  have ip := Gf.inv_lt p
  have iq := Gf.inv_lt q
  rw [Gf.gm_addR, Gf.gm_assoc ip iq, Gf.gm_comm iq hp, ← Gf.gm_assoc ip hp, Gf.gm_inv hp p0, Gf.gm_oneL iq, Gf.gm_assoc ip iq, Gf.gm_inv hq q0, Gf.gm_oneR ip, Nat.xor_comm]
theorem cauchy_null : ∀ (n : Nat) {x y v : Nat → Nat}, (∀ b, b < n → x b < 256) → (∀ a, a < n → y a < 256) → (∀ b, b < n → v b < 256) → (∀ a b, a < n → b < n → x b ≠ y a) → (∀ b b', b < n → b' < n → x b = x b' → b = b') → (∀ a a', a < n → a' < n → y a = y a' → a = a') →
    (∀ a, a < n → dot n (fun b => Gf.inv (x b ^^^ y a)) v = 0) → ∀ b, b < n → v b = 0
  | 0, _, _, _, _, _, _, _, _, _, _, b, hb => by omega
  | n + 1, x, y, v, hx, hy, hv, hxy, ix, iy, hD, b, hb => by
    have zl : ∀ a b, a < n + 1 → b < n + 1 → x b ^^^ y a < 256 := fun a b ha hb => Gf.xlt (hx b hb) (hy a ha)
    have z0 : ∀ a b, a < n + 1 → b < n + 1 → x b ^^^ y a ≠ 0 := fun a b ha hb => xor_ne (hxy a b ha hb)
    have hE : ∀ a, a < n + 1 → dot n (fun b => Gf.inv (x b ^^^ y a)) (fun b => Gf.gm (v b) (x b ^^^ x n)) = dot n (fun _ => 1) v ^^^ v n := by
      intro a ha
      have h1 := hD a ha
      rw [dot] at h1
      have sl := zl a n ha (by omega)
      have s0 := z0 a n ha (by omega)
      have h2 := congrArg (fun t => Gf.gm t (x n ^^^ y a)) h1
      rw [Gf.gm_zeroL, Gf.gm_addL (dot_lt fun b hb => Gf.inv_lt _) (Gf.gm_lt (Gf.inv_lt _)), dot_mul (fun b _ => Gf.inv_lt _) (fun b hb => hv b (by omega)), Gf.gm_comm (Gf.inv_lt _) (hv n (by omega)), Gf.gm_assoc (hv n (by omega)) (Gf.inv_lt _), Gf.gm_inv sl s0, Gf.gm_oneR (hv n (by omega))] at h2
      have e1 : dot n (fun b => Gf.inv (x b ^^^ y a)) (fun l => Gf.gm (v l) (x n ^^^ y a)) = dot n (fun _ => 1) v ^^^ dot n (fun b => Gf.inv (x b ^^^ y a)) (fun b => Gf.gm (v b) (x b ^^^ x n)) := by
        have e2 : dot n (fun b => Gf.inv (x b ^^^ y a)) (fun l => Gf.gm (v l) (x n ^^^ y a)) = dot n (fun b => Gf.inv (x b ^^^ y a)) (fun l => Gf.gm (v l) (x l ^^^ y a) ^^^ Gf.gm (v l) (x l ^^^ x n)) := by
          refine dot_congr (fun _ _ => rfl) fun l _ => ?_
          rw [← Gf.gm_addR]
          congr 1
          apply Nat.eq_of_testBit_eq
          intro i
          simp only [Nat.testBit_xor]
          cases (x n).testBit i <;> cases (y a).testBit i <;> cases (x l).testBit i <;> rfl
        rw [e2, dot_add]
        congr 1
        refine dot_term fun l hl => ?_
        have hvl := hv l (by omega)
        have pl := zl a l ha (by omega)
        have p0 := z0 a l ha (by omega)
        rw [Gf.gm_comm hvl pl, ← Gf.gm_assoc (Gf.inv_lt _) pl, Gf.gm_inv pl p0]
      rw [e1] at h2
      generalize dot n (fun _ => 1) v = S at *
      generalize dot n (fun b => Gf.inv (x b ^^^ y a)) (fun b => Gf.gm (v b) (x b ^^^ x n)) = D at *
      generalize v n = u at *
      have h3 : D = S ^^^ u ^^^ (S ^^^ D ^^^ u) := by
        apply Nat.eq_of_testBit_eq
        intro i
        simp only [Nat.testBit_xor]
        cases S.testBit i <;> cases D.testBit i <;> cases u.testBit i <;> rfl
      rw [h3, h2, Nat.xor_zero]
    have hU : ∀ a, a < n → dot n (fun b => Gf.inv (x b ^^^ y a)) (fun b => Gf.gm (Gf.inv (x b ^^^ y n)) (Gf.gm (v b) (x b ^^^ x n))) = 0 := by
      intro a ha
      have e0 : y a ^^^ y n ≠ 0 := xor_ne fun c => by have := iy a n (by omega) (by omega) c; omega
      have el : y a ^^^ y n < 256 := Gf.xlt (hy a (by omega)) (hy n (by omega))
      have h1 : dot n (fun b => Gf.inv (x b ^^^ y a) ^^^ Gf.inv (x b ^^^ y n)) (fun b => Gf.gm (v b) (x b ^^^ x n)) = 0 := by
        rw [dot_addL (fun b _ => Gf.inv_lt _) (fun b _ => Gf.inv_lt _), hE a (by omega), hE n (by omega), Nat.xor_self]
      have h2 : Gf.gm (dot n (fun b => Gf.inv (x b ^^^ y a)) (fun b => Gf.gm (Gf.inv (x b ^^^ y n)) (Gf.gm (v b) (x b ^^^ x n)))) (y a ^^^ y n) = 0 := by
        rw [dot_mul (fun b _ => Gf.inv_lt _) (fun b _ => Gf.gm_lt (Gf.inv_lt _)), ← h1]
        refine dot_term fun l hl => ?_
        have pl := zl a l (by omega) (by omega)
        have p0 := z0 a l (by omega) (by omega)
        have ql := zl n l (by omega) (by omega)
        have q0 := z0 n l (by omega) (by omega)
        have ip := Gf.inv_lt (x l ^^^ y a)
        have iq := Gf.inv_lt (x l ^^^ y n)
        have wl : Gf.gm (v l) (x l ^^^ x n) < 256 := Gf.gm_lt (hv l (by omega))
        have es : (x l ^^^ y a) ^^^ (x l ^^^ y n) = y a ^^^ y n := by
          apply Nat.eq_of_testBit_eq
          intro i
          simp only [Nat.testBit_xor]
          cases (x l).testBit i <;> cases (y a).testBit i <;> cases (y n).testBit i <;> rfl
        rw [inv_sum pl ql p0 q0, es, Gf.gm_assoc ip iq, Gf.gm_assoc ip (Gf.gm_lt iq), Gf.gm_assoc iq el, Gf.gm_assoc iq wl, Gf.gm_comm el wl]
      rcases (Gf.gm_eq_zero (dot_lt fun b _ => Gf.inv_lt _) el).1 h2 with h | h
      · exact h
      · exact absurd h e0
    have ih := cauchy_null n (x := x) (y := y) (v := fun b => Gf.gm (Gf.inv (x b ^^^ y n)) (Gf.gm (v b) (x b ^^^ x n))) (fun b hb => hx b (by omega)) (fun a ha => hy a (by omega)) (fun b _ => Gf.gm_lt (Gf.inv_lt _)) (fun a b ha hb => hxy a b (by omega) (by omega)) (fun b b' h1 h2 => ix b b' (by omega) (by omega)) (fun a a' h1 h2 => iy a a' (by omega) (by omega)) hU
    have low : ∀ b, b < n → v b = 0 := by
      intro b hb
      have h1 := ih b hb
      have wl : Gf.gm (v b) (x b ^^^ x n) < 256 := Gf.gm_lt (hv b (by omega))
      rcases (Gf.gm_eq_zero (Gf.inv_lt _) wl).1 h1 with h | h
      · exact absurd h (inv_ne (zl n b (by omega) (by omega)) (z0 n b (by omega) (by omega)))
      · rcases (Gf.gm_eq_zero (hv b (by omega)) (Gf.xlt (hx b (by omega)) (hx n (by omega)))).1 h with h | h
        · exact h
        · exact absurd h (xor_ne fun c => by have := ix b n (by omega) (by omega) c; omega)
    by_cases e : b = n
    · subst e
      have h1 := hD b (by omega)
      rw [dot, dot_congr (x' := fun c => Gf.inv (x c ^^^ y b)) (y' := fun _ => 0) (fun _ _ => rfl) (fun c hc => low c hc), dot_zero, Nat.zero_xor] at h1
      rcases (Gf.gm_eq_zero (Gf.inv_lt _) (hv b (by omega))).1 h1 with h | h
      · exact absurd h (inv_ne (zl b b (by omega) (by omega)) (z0 b b (by omega) (by omega)))
      · exact h
    · exact low b (by omega)
end Go.Proofs.Ytjpibfnkchbglab
