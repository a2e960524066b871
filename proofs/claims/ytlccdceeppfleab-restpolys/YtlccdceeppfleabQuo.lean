/- Division of polynomials: quotient times divisor and the rest are what was divided, the rest is shorter, and there is one such quotient alone. -/
import Derived.Test.YtlccdceeppfleabCo
import Derived.Test.YtlccdceeppfleabGf2
namespace Go.Proofs.Ytlccdceeppfleab
open Go.ChangeShapes Go.WideShapes Go.ChangeAt Go.RowKit Go.Shelf
theorem xor_zero_eq {a b : Nat} (h : a ^^^ b = 0) : a = b := by
  have : a ^^^ (a ^^^ b) = a := by rw [h, Nat.xor_zero]
  rw [Gf.xsame] at this
  exact this.symm
/-- one factor alone, at place o -/
def dl (o f : Nat) (j : Nat) : Nat := if j = o then f else 0
theorem M_dl (B : List Nat) (o f : Nat) (j : Nat) : M B (dl o f) j = if o ≤ j then Gf.gm (co B (j - o)) f else 0 := by
  induction B generalizing j with
  | nil => rw [co_nil, Gf.gm_zeroL]; simp [M]
  | cons a B ih =>
    rw [M_cons]
    rcases Nat.lt_trichotomy j o with h | h | h
    · rw [if_neg (by omega), dl, if_neg (by omega), Gf.gm_zeroR, Nat.zero_xor]
      cases j with
      | zero => rfl
      | succ j => show M B (dl o f) j = 0; rw [ih, if_neg (by omega)]
    · subst h
      rw [if_pos (Nat.le_refl _), dl, if_pos rfl, Nat.sub_self]
      cases j with
      | zero => simp [sh, co]
      | succ j => show Gf.gm a f ^^^ M B (dl (j + 1) f) j = _; rw [ih, if_neg (by omega)]; simp [co]
    · rw [if_pos (by omega), dl, if_neg (by omega), Gf.gm_zeroR, Nat.zero_xor]
      cases j with
      | zero => omega
      | succ j => show M B (dl o f) j = _; rw [ih, if_pos (by omega), show j + 1 - o = (j - o) + 1 by omega, co_succ]
theorem co_set {L : List Nat} {o f : Nat} (h0 : co L o = 0) (ho : o < L.length) (j : Nat) : co (L.set o f) j = co L j ^^^ dl o f j := by
  unfold dl
  by_cases h : j = o
  · subst h; rw [if_pos rfl, h0, Nat.zero_xor]; simp [co, ho]
  · rw [if_neg h, Nat.xor_zero]; simp [co, List.getElem?_set_ne (Ne.symm h)]
theorem co_addAt {R B : List Nat} {o f : Nat} (hl : o + B.length ≤ R.length) (j : Nat) : co (addAt R o B f) j = co R j ^^^ (if o ≤ j then Gf.gm (co B (j - o)) f else 0) := by
  by_cases hj : j < R.length
  · unfold co
    rw [addAt_get hj]
    by_cases h1 : o ≤ j
    · by_cases h2 : j < o + B.length
      · rw [if_pos ⟨h1, h2⟩, if_pos h1]
      · rw [if_neg (by omega), if_pos h1, List.getElem?_eq_none (show B.length ≤ j - o by omega), Option.getD_none, Gf.gm_zeroL, Nat.xor_zero]
    · rw [if_neg (by omega), if_neg h1, Nat.xor_zero]
  · rw [co_high (by rw [addAt_len]; omega), co_high (L := R) (by omega), co_high (L := B) (by omega), Gf.gm_zeroL]; simp
/-- what holds while a division goes on, k places of it done -/
structure DivS (P B : List Nat) (t k : Nat) (s : List Nat × List Nat) : Prop where
  l1 : s.1.length = P.length
  l2 : s.2.length = P.length
  b1 : Byt s.1
  b2 : Byt s.2
  eq : ∀ j, co P j = co s.2 j ^^^ M B (co s.1) j
  hi : ∀ j, P.length ≤ j + k → co s.2 j = 0
  lo : ∀ j, j + t + k < P.length → co s.1 j = 0
theorem div_step {P B : List Nat} {t k : Nat} {s : List Nat × List Nat} (hB : Byt B) (hBl : B.length = t + 1) (h0 : co B t ≠ 0) (hk : k + t < P.length) (h : DivS P B t k s) : DivS P B t (k + 1) (dstep B (Gf.inv (co B t)) s (P.length - 1 - k)) := by
  have hf : Gf.gm (co s.2 (P.length - 1 - k)) (Gf.inv (co B t)) < 256 := Gf.gm_lt (co_lt h.b2 _)
  have ht : B.length - 1 = t := by omega
  have hq : ∀ j, co (s.1.set (P.length - 1 - k - t) (Gf.gm (co s.2 (P.length - 1 - k)) (Gf.inv (co B t)))) j = co s.1 j ^^^ dl (P.length - 1 - k - t) (Gf.gm (co s.2 (P.length - 1 - k)) (Gf.inv (co B t))) j :=
    co_set (h.lo _ (by omega)) (by rw [h.l1]; omega)
  have hr : ∀ j, co (addAt s.2 (P.length - 1 - k - t) B (Gf.gm (co s.2 (P.length - 1 - k)) (Gf.inv (co B t)))) j = _ := co_addAt (by rw [h.l2, hBl]; omega)
  unfold dstep
  rw [ht]
  refine ⟨by simp [h.l1], by simp [addAt_len, h.l2], ?_, addAt_lt h.b2 hB _ _, fun j => ?_, fun j hj => ?_, fun j hj => ?_⟩
  · intro x hx
    rcases List.mem_or_eq_of_mem_set hx with hx | hx
    · exact h.b1 x hx
    · rw [hx]; exact hf
  · show co P j = co (addAt s.2 _ B (Gf.gm (co s.2 _) _)) j ^^^ M B (co (s.1.set _ (Gf.gm (co s.2 _) _))) j
    rw [hr, show co (s.1.set (P.length - 1 - k - t) (Gf.gm (co s.2 (P.length - 1 - k)) (Gf.inv (co B t)))) = fun j => co s.1 j ^^^ dl (P.length - 1 - k - t) (Gf.gm (co s.2 (P.length - 1 - k)) (Gf.inv (co B t))) j from funext hq,
      M_add, M_dl, xor_four, Nat.xor_self, Nat.xor_zero]
    exact h.eq j
  · show co (addAt s.2 _ B (Gf.gm (co s.2 _) _)) j = 0
    rw [hr]
    by_cases e : j = P.length - 1 - k
    · subst e
      rw [if_pos (by omega), show P.length - 1 - k - (P.length - 1 - k - t) = t by omega, gm_left (co_lt hB _) (co_lt h.b2 _), Gf.gm_inv' (co_lt hB _) h0, Gf.gm_oneR (co_lt h.b2 _), Nat.xor_self]
    · rw [h.hi j (by omega), co_high (L := B) (by omega), Gf.gm_zeroL]; simp
  · show co (s.1.set _ (Gf.gm (co s.2 _) _)) j = 0
    rw [hq, h.lo j (by omega), dl, if_neg (by omega)]; rfl
theorem div_run {P B : List Nat} {t : Nat} (hP : Byt P) (hB : Byt B) (hBl : B.length = t + 1) (h0 : co B t ≠ 0) : ∀ k, k ≤ P.length - t →
    DivS P B t k ((List.range k).foldl (fun s k => dstep B (Gf.inv (co B t)) s (P.length - 1 - k)) (List.replicate P.length 0, P))
  | 0, _ => by
    have z : ∀ j, co (List.replicate P.length 0) j = 0 := fun j => by
      unfold co
      rw [List.getElem?_replicate]
      split <;> rfl
    show DivS P B t 0 (List.replicate P.length 0, P)
    refine ⟨by simp, rfl, byt_co fun n => by rw [z]; omega, hP, fun j => ?_, fun j hj => co_high (by omega), fun j _ => z j⟩
    show co P j = co P j ^^^ M B (co (List.replicate P.length 0)) j
    rw [show co (List.replicate P.length 0) = fun _ => 0 from funext z, M_zero, Nat.xor_zero]
  | k + 1, hk => by
    rw [List.range_succ, List.foldl_append]
    exact div_step hB hBl h0 (by omega) (div_run hP hB hBl h0 k (by omega))
theorem div_fin {P Q : List Nat} (hP : Byt P) (hQ : Byt Q) (h0 : trim Q ≠ []) :
    (∀ j, co P j = co (pdr P Q) j ^^^ M (trim Q) (co (pdq P Q)) j) ∧ (pdr P Q).length < (trim Q).length ∧ (pdq P Q).length ≤ P.length ∧ Byt (pdq P Q) ∧ Byt (pdr P Q) := by
  have hl : 0 < (trim Q).length := List.length_pos_iff.2 h0
  have hB := byt_trim hQ
  have h := div_run hP hB (B := trim Q) (t := (trim Q).length - 1) (by omega) (co_top hl) (P.length - ((trim Q).length - 1)) (Nat.le_refl _)
  unfold pdq pdr dfin
  have e : (trim Q)[(trim Q).length - 1]?.getD 0 = co (trim Q) ((trim Q).length - 1) := rfl
  rw [e]
  generalize (List.range (P.length - ((trim Q).length - 1))).foldl (fun s k => dstep (trim Q) (Gf.inv (co (trim Q) ((trim Q).length - 1))) s (P.length - 1 - k)) (List.replicate P.length 0, P) = s at h
  refine ⟨fun j => ?_, ?_, ?_, byt_trim h.b1, byt_trim h.b2⟩
  · rw [co_trim, show co (trim s.1) = co s.1 from funext (co_trim _)]; exact h.eq j
  · apply Nat.lt_of_not_le
    intro c
    have n1 := co_top (L := s.2) (by omega)
    rw [co_trim] at n1
    exact n1 (h.hi _ (by omega))
  · have := trim_len s.1
    rw [h.l1] at this
    exact this
theorem M_trim (P : List Nat) (g : Nat → Nat) (n : Nat) : M (trim P) g n = M P g n := by
  obtain ⟨Z, e, hz⟩ := trim_split P
  conv => rhs; rw [e]
  clear e
  generalize trim P = T
  induction T generalizing n with
  | nil =>
    induction Z generalizing n with
    | nil => rfl
    | cons z Z ih =>
      rw [List.nil_append, M_cons, hz z (by simp), Gf.gm_zeroL, Nat.zero_xor]
      cases n with
      | zero => rfl
      | succ n => exact ih (fun y hy => hz y (by simp [hy])) n
  | cons a T ih =>
    rw [List.cons_append, M_cons, M_cons, show M T g = M (T ++ Z) g from funext ih]
/-- Quotient times divisor, and the rest, are what was divided. -/
theorem div_back {P Q : List Nat} (hP : Byt P) (hQ : Byt Q) (h0 : trim Q ≠ []) : trim (plus (pm (pdq P Q) Q) (pdr P Q)) = trim P := by
  obtain ⟨h1, h2, h3, h4, h5⟩ := div_fin hP hQ h0
  refine trim_ext fun n => ?_
  rw [co_plus, co_pm h4 hQ, M_swap h4 hQ, ← M_trim Q, h1 n, Nat.xor_comm]
/-- A product divided by one of its factors is the other one. -/
theorem div_pm {P Q : List Nat} (hP : Byt P) (hQ : Byt Q) (h0 : trim Q ≠ []) : pdq (pm P Q) Q = trim P ∧ pdr (pm P Q) Q = [] := by
  obtain ⟨h1, h2, h3, h4, h5⟩ := div_fin (byt_pm hP hQ) hQ h0
  have hl : 0 < (trim Q).length := List.length_pos_iff.2 h0
  have tq : trim (pdq (pm P Q) Q) = pdq (pm P Q) Q := trim_trim _
  have tr : trim (pdr (pm P Q) Q) = pdr (pm P Q) Q := trim_trim _
  have e : ∀ j, M (trim Q) (co (plus P (pdq (pm P Q) Q))) j = co (pdr (pm P Q) Q) j := by
    intro j
    have := h1 j
    rw [co_pm hP hQ, M_swap hP hQ, ← M_trim Q] at this
    rw [show co (plus P (pdq (pm P Q) Q)) = fun k => co P k ^^^ co (pdq (pm P Q) Q) k from funext fun k => co_plus _ _ k, M_add, this, Nat.xor_assoc, Nat.xor_self, Nat.xor_zero]
  have z : (trim (plus P (pdq (pm P Q) Q))).length = 0 := by
    apply Nat.eq_zero_of_not_pos
    intro c
    have hD := byt_trim (byt_plus hP h4)
    have top := M_top (trim Q) (g := co (trim (plus P (pdq (pm P Q) Q)))) (m := (trim (plus P (pdq (pm P Q) Q))).length - 1) (fun k hk => co_high (by omega)) (n := (trim Q).length - 1) (by omega)
    rw [show co (trim (plus P (pdq (pm P Q) Q))) = co (plus P (pdq (pm P Q) Q)) from funext (co_trim _), e, co_high (by omega)] at top
    rcases (Gf.gm_eq_zero (co_lt (byt_trim hQ) _) (co_lt (byt_plus hP h4) _)).1 top.symm with d | d
    · exact co_top hl d
    · rw [← co_trim] at d; exact co_top c d
  have z' : ∀ k, co (plus P (pdq (pm P Q) Q)) k = 0 := fun k => by rw [← co_trim]; exact co_high (by omega)
  constructor
  · rw [← tq]
    refine trim_ext fun k => ?_
    have := z' k
    rw [co_plus] at this
    exact (xor_zero_eq this).symm
  · rw [← tr, ← trim_nil]
    refine trim_ext fun k => ?_
    rw [← e k, show co (plus P (pdq (pm P Q) Q)) = fun _ => 0 from funext z', M_zero, co_nil]
end Go.Proofs.Ytlccdceeppfleab
