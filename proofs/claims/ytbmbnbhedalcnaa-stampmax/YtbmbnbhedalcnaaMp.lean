/- The greatest of two lists: what is to be shown. -/
import Derived.Test.YtbmbnbhedalcnaaMn
namespace Go.Proofs.Ytbmbnbhedalcnaa
open Go.RowKit
section
variable {g h : Nat → List Value}
theorem mxE_pre : ∀ {m k : Nat}, mxE g m = 0 → k ≤ m → mxE g k = 0
  | 0, k, h0, hk => by rw [Nat.le_zero.1 hk]; rfl
  | m + 1, k, h0, hk => by
    by_cases e : k = m + 1
    · subst e; exact h0
    · have h0 : (bif mxE g m != 0 then mxE g m else sck (stp (g m))) = 0 := h0
      have h1 : mxE g m = 0 := by
        cases hb : (mxE g m != 0) with
        | true => rw [hb] at h0; exact h0
        | false => simpa using hb
      exact mxE_pre h1 (by omega)
theorem mxE_ok {m j : Nat} (h0 : mxE g m = 0) (hj : j < m) : sck (stp (g j)) = 0 ∧ mxW g (j + 1) = bif slt (mxW g j) (stp (g j)) then stp (g j) else mxW g j := by
  have h1 := mxE_pre h0 (k := j + 1) (by omega)
  have h2 := mxE_pre h0 (k := j) (by omega)
  have h3 : (bif mxE g j != 0 then mxE g j else sck (stp (g j))) = 0 := h1
  rw [h2] at h3
  have h3 : sck (stp (g j)) = 0 := h3
  exact ⟨h3, (mxE_step h2 h3).2⟩
theorem sck_pos {p : St} (h : sck p = 0) : slt p (0, 0) = false := by
  refine (slt_niff _ _).2 ?_
  unfold sck at h
  by_cases hh : p.1 < 0 ∨ 1000000 < p.1 ∨ p.2 < 0 ∨ 31 < p.2
  · rw [if_pos hh] at h; cases h
  · show ¬ (p.1 < 0 ∨ p.1 = 0 ∧ p.2 < 0)
    omega
/-- it is zero, or one of them -/
theorem mxW_or {m : Nat} (h0 : mxE g m = 0) : ∀ {k : Nat}, k ≤ m → (k = 0 ∧ mxW g k = (0, 0)) ∨ ∃ j, j < k ∧ mxW g k = stp (g j)
  | 0, _ => .inl ⟨rfl, rfl⟩
  | k + 1, hk => by
    obtain ⟨q1, q2⟩ := mxE_ok h0 (j := k) (by omega)
    rw [q2]
    right
    cases hs : slt (mxW g k) (stp (g k)) with
    | true => exact ⟨k, by omega, rfl⟩
    | false =>
      rcases mxW_or h0 (k := k) (by omega) with ⟨rfl, e⟩ | ⟨j, hj, e⟩
      · refine ⟨0, by omega, ?_⟩
        show mxW g 0 = stp (g 0)
        rw [e] at hs ⊢
        exact slt_anti hs (sck_pos q1)
      · exact ⟨j, by omega, e⟩
theorem mxW_pos {m : Nat} (h0 : mxE g m = 0) : slt (mxW g m) (0, 0) = false := by
  rcases mxW_or h0 (Nat.le_refl m) with ⟨_, e⟩ | ⟨j, hj, e⟩
  · rw [e]; exact slt_irr _
  · rw [e]; exact sck_pos (mxE_ok h0 hj).1
/-- none is above -/
theorem mxW_top {m : Nat} (h0 : mxE g m = 0) : ∀ {k : Nat}, k ≤ m → ∀ j, j < k → slt (mxW g k) (stp (g j)) = false
  | 0, _, j, hj => by omega
  | k + 1, hk, j, hj => by
    obtain ⟨q1, q2⟩ := mxE_ok h0 (j := k) (by omega)
    rw [q2]
    cases hs : slt (mxW g k) (stp (g k)) with
    | true =>
      rw [cond_true]
      by_cases e : j = k
      · subst e; exact slt_irr _
      · exact slt_nn (slt_as hs) (mxW_top h0 (k := k) (by omega) j (by omega))
    | false =>
      rw [cond_false]
      by_cases e : j = k
      · subst e; exact hs
      · exact mxW_top h0 (k := k) (by omega) j (by omega)
theorem fnd_true {t w : Int} {b : Bool} : ∀ {k : Nat}, (b = true ∨ ∃ j, j < k ∧ stp (g j) = (t, w)) → fndN g t w b k = true
  | 0, h => by
    rcases h with h | ⟨j, hj, _⟩
    · exact h
    · omega
  | k + 1, h => by
    unfold fndN
    cases hf : fndN g t w b k with
    | true => rfl
    | false =>
      rw [cond_false]
      rcases h with h | ⟨j, hj, e⟩
      · rw [fnd_true (.inl h)] at hf; cases hf
      · by_cases ej : j = k
        · subst ej
          exact decide_eq_true ⟨congrArg Prod.fst e, congrArg Prod.snd e⟩
        · rw [fnd_true (.inr ⟨j, by omega, e⟩)] at hf; cases hf
theorem join_lo {m j : Nat} (hj : j < m) : joinG m g h j = g j := by
  show (bif Nat.blt j m then g j else h (j - m)) = g j
  rw [show Nat.blt j m = true from by rw [Nat.blt_eq]; exact hj]
  rfl
theorem join_hi (m k : Nat) : joinG m g h (m + k) = h k := by
  show (bif Nat.blt (m + k) m then g (m + k) else h (m + k - m)) = h k
  rw [show Nat.blt (m + k) m = false from by
    cases e : Nat.blt (m + k) m with
    | false => rfl
    | true => rw [Nat.blt_eq] at e; omega]
  rw [Nat.add_sub_cancel_left]
  rfl
theorem mxE_cong {u v : Nat → List Value} : ∀ {k : Nat}, (∀ j, j < k → u j = v j) → mxE u k = mxE v k ∧ mxW u k = mxW v k
  | 0, _ => ⟨rfl, rfl⟩
  | k + 1, h => by
    obtain ⟨i1, i2⟩ := mxE_cong (k := k) fun j hj => h j (by omega)
    have e : mxE u (k + 1) = mxE v (k + 1) := by
      show (bif mxE u k != 0 then mxE u k else sck (stp (u k))) = (bif mxE v k != 0 then mxE v k else sck (stp (v k)))
      rw [i1, h k (by omega)]
    refine ⟨e, ?_⟩
    show (bif mxE u (k + 1) != 0 then mxW u k else bif slt (mxW u k) (stp (u k)) then stp (u k) else mxW u k) = (bif mxE v (k + 1) != 0 then mxW v k else bif slt (mxW v k) (stp (v k)) then stp (v k) else mxW v k)
    rw [e, i2, h k (by omega)]
/-- of two lists it is the greater of both ones' -/
theorem mxW_join {m m2 : Nat} (hg : mxE g m = 0) (hh : mxE h m2 = 0) (hj : mxE (joinG m g h) (m + m2) = 0) : ∀ {k : Nat}, k ≤ m2 → mxW (joinG m g h) (m + k) = bif slt (mxW g m) (mxW h k) then mxW h k else mxW g m
  | 0, _ => by
    have e := (mxE_cong (u := joinG m g h) (v := g) (k := m) fun j hj => join_lo hj).2
    show mxW (joinG m g h) m = bif slt (mxW g m) (0, 0) then (0, 0) else mxW g m
    rw [e, mxW_pos hg]
    rfl
  | k + 1, hk => by
    obtain ⟨_, q1⟩ := mxE_ok hh (j := k) (by omega)
    obtain ⟨_, q2⟩ := mxE_ok hj (j := m + k) (by omega)
    rw [join_hi] at q2
    have ih := mxW_join hg hh hj (k := k) (by omega)
    show mxW (joinG m g h) (m + k + 1) = _
    rw [q2, q1, ih]
    generalize mxW g m = G
    generalize mxW h k = H
    generalize stp (h k) = s
    cases h1 : slt G H with
    | true =>
      cases h2 : slt H s with
      | true => simp only [cond_true, h2, slt_tr h1 h2]
      | false => simp only [cond_true, cond_false, h1, h2]
    | false =>
      cases h2 : slt H s with
      | true => simp only [cond_true, cond_false]
      | false => simp only [cond_false, h1, slt_nn h1 h2]
theorem maxE_z {m : Nat} (h0 : maxE m g = 0) : m ≤ 64 ∧ mxE g m = 0 ∧ maxV m g = mxW g m := by
  have e2 : maxV m g = mxW g m := by unfold maxV; rw [h0]; rfl
  unfold maxE at h0
  cases hd : decide (64 < m) with
  | true => rw [hd] at h0; cases h0
  | false =>
    rw [hd] at h0
    exact ⟨by have := of_decide_eq_false hd; omega, h0, e2⟩
end
end Go.Proofs.Ytbmbnbhedalcnaa
