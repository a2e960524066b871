/- Polynomials as what their factors are: sums, products, the laws of a ring, how long a product is. -/
import Derived.Test.YtlccdceeppfleabPlusA
namespace Go.Proofs.Ytlccdceeppfleab
open Go.ChangeShapes Go.WideShapes Go.ChangeAt Go.RowKit Go.Shelf
/-- factor number i -/
def co (L : List Nat) (i : Nat) : Nat := L[i]?.getD 0
theorem co_nil (i : Nat) : co [] i = 0 := by simp [co]
theorem co_succ (a : Nat) (L : List Nat) (i : Nat) : co (a :: L) (i + 1) = co L i := by simp [co]
theorem co_high {L : List Nat} {i : Nat} (h : L.length ≤ i) : co L i = 0 := by simp [co, h]
theorem co_lt {L : List Nat} (h : Byt L) (i : Nat) : co L i < 256 := getD_lt h i
theorem co_trim (L : List Nat) (n : Nat) : co (trim L) n = co L n := by
  obtain ⟨Z, e, hz⟩ := trim_split L
  by_cases h : n < (trim L).length
  · conv => rhs; rw [e]
    simp [co, List.getElem?_append_left h]
  · rw [co_high (by omega)]
    conv => rhs; rw [e]
    unfold co
    rw [List.getElem?_append_right (by omega)]
    cases hq : Z[n - (trim L).length]? with
    | none => rfl
    | some z => exact (hz z (List.mem_of_getElem? hq)).symm
theorem co_top {L : List Nat} (h : 0 < (trim L).length) : co (trim L) ((trim L).length - 1) ≠ 0 := trim_last h
theorem trim_ext {A B : List Nat} (h : ∀ n, co A n = co B n) : trim A = trim B := by
  have h' : ∀ n, co (trim A) n = co (trim B) n := fun n => by rw [co_trim, co_trim, h]
  have hl : (trim A).length = (trim B).length := by
    rcases Nat.lt_trichotomy (trim A).length (trim B).length with c | c | c
    · exact absurd ((h' ((trim B).length - 1)).symm.trans (co_high (by omega))) (co_top (by omega))
    · exact c
    · exact absurd ((h' ((trim A).length - 1)).trans (co_high (by omega))) (co_top (by omega))
  apply List.ext_getElem hl
  intro i h1 h2
  have := h' i
  simpa [co, h1, h2] using this
theorem co_plus (P Q : List Nat) (n : Nat) : co (plus P Q) n = co P n ^^^ co Q n := by
  unfold plus plusN
  by_cases h : n < max P.length Q.length
  · simp [co, h]
  · rw [co_high (by simp; omega), co_high (by omega), co_high (by omega)]; rfl
/-- all of them bytes -/
def Byf (g : Nat → Nat) : Prop := ∀ n, g n < 256
/-- one place further on -/
def sh (g : Nat → Nat) : Nat → Nat
  | 0 => 0
  | n + 1 => g n
/-- the product of a list and a row of factors -/
def M : List Nat → (Nat → Nat) → Nat → Nat
  | [], _ => fun _ => 0
  | a :: P, g => fun n => Gf.gm a (g n) ^^^ sh (M P g) n
theorem M_cons (a : Nat) (P : List Nat) (g : Nat → Nat) (n : Nat) : M (a :: P) g n = Gf.gm a (g n) ^^^ sh (M P g) n := rfl
theorem sh_lt {g : Nat → Nat} (h : Byf g) : Byf (sh g) := fun n => by
  cases n with
  | zero => exact Nat.zero_lt_succ _
  | succ n => exact h n
theorem M_lt {P : List Nat} (hP : Byt P) (g : Nat → Nat) : Byf (M P g) := by
  induction P with
  | nil => intro n; exact Nat.zero_lt_succ _
  | cons a P ih => intro n; rw [M_cons]; exact Gf.xlt (Gf.gm_lt hP.head) (sh_lt (ih hP.tail) n)
theorem sh_add (g h : Nat → Nat) (n : Nat) : sh (fun k => g k ^^^ h k) n = sh g n ^^^ sh h n := by
  cases n with
  | zero => simp [sh]
  | succ n => rfl
theorem M_add (P : List Nat) (g h : Nat → Nat) (n : Nat) : M P (fun k => g k ^^^ h k) n = M P g n ^^^ M P h n := by
  induction P generalizing n with
  | nil => simp [M]
  | cons a P ih =>
    rw [M_cons, M_cons, M_cons, Gf.gm_addR, show M P (fun k => g k ^^^ h k) = fun k => M P g k ^^^ M P h k from funext ih, sh_add]
    exact xor_four _ _ _ _
theorem gm_left {a b c : Nat} (ha : a < 256) (hb : b < 256) : Gf.gm a (Gf.gm b c) = Gf.gm b (Gf.gm a c) := by
  rw [← Gf.gm_assoc ha hb, Gf.gm_comm ha hb, Gf.gm_assoc hb ha]
theorem sh_smul (c : Nat) (g : Nat → Nat) (n : Nat) : sh (fun k => Gf.gm c (g k)) n = Gf.gm c (sh g n) := by
  cases n with
  | zero => simp [sh, Gf.gm_zeroR]
  | succ n => rfl
theorem M_smul {P : List Nat} (hP : Byt P) {c : Nat} (hc : c < 256) (g : Nat → Nat) (n : Nat) : M P (fun k => Gf.gm c (g k)) n = Gf.gm c (M P g n) := by
  induction P generalizing n with
  | nil => simp [M, Gf.gm_zeroR]
  | cons a P ih =>
    rw [M_cons, M_cons, show M P (fun k => Gf.gm c (g k)) = fun k => Gf.gm c (M P g k) from funext (ih hP.tail), sh_smul, Gf.gm_addR, gm_left hP.head hc]
theorem M_sh (P : List Nat) (g : Nat → Nat) (n : Nat) : M P (sh g) n = sh (M P g) n := by
  induction P generalizing n with
  | nil => cases n <;> rfl
  | cons a P ih =>
    rw [M_cons, show M P (sh g) = sh (M P g) from funext ih]
    cases n with
    | zero => simp [sh, Gf.gm_zeroR]
    | succ n => rfl
theorem M_zero (P : List Nat) (n : Nat) : M P (fun _ => 0) n = 0 := by
  induction P generalizing n with
  | nil => rfl
  | cons a P ih =>
    rw [M_cons, Gf.gm_zeroR, show M P (fun _ => 0) = fun _ => 0 from funext ih]
    cases n <;> simp [sh]
theorem M_comm {P Q : List Nat} (hP : Byt P) (hQ : Byt Q) (g : Nat → Nat) (n : Nat) : M P (M Q g) n = M Q (M P g) n := by
  induction P generalizing n with
  | nil => exact (M_zero Q n).symm
  | cons a P ih =>
    rw [M_cons, show M P (M Q g) = M Q (M P g) from funext (ih hP.tail), show M (a :: P) g = fun k => Gf.gm a (g k) ^^^ sh (M P g) k from rfl, M_add, M_smul hQ hP.head, M_sh]
/-- 1 -/
def oneF : Nat → Nat
  | 0 => 1
  | _ + 1 => 0
theorem M_one {P : List Nat} (hP : Byt P) (n : Nat) : M P oneF n = co P n := by
  induction P generalizing n with
  | nil => rw [co_nil]; rfl
  | cons a P ih =>
    rw [M_cons]
    cases n with
    | zero => simp [sh, oneF, co, Gf.gm_oneR hP.head]
    | succ n => rw [co_succ, ← ih hP.tail]; simp [sh, oneF, Gf.gm_zeroR]
theorem M_swap {P Q : List Nat} (hP : Byt P) (hQ : Byt Q) (n : Nat) : M P (co Q) n = M Q (co P) n := by
  rw [show co Q = M Q oneF from funext fun k => (M_one hQ k).symm, show co P = M P oneF from funext fun k => (M_one hP k).symm, M_comm hP hQ]
theorem M_high (P : List Nat) {g : Nat → Nat} {m : Nat} (hg : ∀ k, m ≤ k → g k = 0) {n : Nat} (hn : P.length + m ≤ n + 1) (h0 : P = [] ∨ m ≤ n) : M P g n = 0 := by
  induction P generalizing n with
  | nil => rfl
  | cons a P ih =>
    rw [List.length_cons] at hn
    rw [M_cons, hg n (by omega), Gf.gm_zeroR, Nat.zero_xor]
    cases n with
    | zero => rfl
    | succ n =>
      show M P g n = 0
      by_cases hP : P = []
      · subst hP; rfl
      · have : 0 < P.length := List.length_pos_iff.2 hP
        exact ih (by omega) (.inr (by omega))
theorem M_snoc (L : List Nat) (a : Nat) (g : Nat → Nat) (n : Nat) : M (L ++ [a]) g n = M L g n ^^^ (if L.length ≤ n then Gf.gm a (g (n - L.length)) else 0) := by
  induction L generalizing n with
  | nil => cases n <;> simp [M, sh]
  | cons b L ih =>
    rw [List.cons_append, M_cons, M_cons, List.length_cons]
    cases n with
    | zero => simp [sh]
    | succ n =>
      simp only [sh]
      rw [ih, ← Nat.xor_assoc, show n + 1 - (L.length + 1) = n - L.length by omega]
      simp only [Nat.add_le_add_iff_right]
theorem co_prow {P Q : List Nat} (hP : Byt P) (hQ : Byt Q) : ∀ k, k ≤ P.length → ∀ n, n < P.length + Q.length → co (prow P Q k) n = M (P.take k) (co Q) n
  | 0, _, n, hn => by simp [prow, co, M, hn]
  | k + 1, hk, n, hn => by
    rw [List.take_succ_eq_append_getElem (by omega), M_snoc, ← co_prow hP hQ k (by omega) n hn, List.length_take, Nat.min_eq_left (by omega)]
    show co (addAt (prow P Q k) k Q (P[k]?.getD 0)) n = _
    simp only [co]
    rw [addAt_get (by rw [prow_len]; exact hn), List.getElem?_eq_getElem (show k < P.length by omega), Option.getD_some]
    have hpk : P[k] < 256 := hP _ (List.getElem_mem _)
    by_cases h1 : k ≤ n
    · by_cases h2 : n < k + Q.length
      · rw [if_pos ⟨h1, h2⟩, if_pos h1, Gf.gm_comm (getD_lt hQ (n - k)) hpk]
      · rw [if_neg (by omega), if_pos h1, List.getElem?_eq_none (show Q.length ≤ n - k by omega), Option.getD_none, Gf.gm_zeroR, Nat.xor_zero]
    · rw [if_neg (by omega), if_neg h1, Nat.xor_zero]
/-- Factor n of a product. -/
theorem co_pm {P Q : List Nat} (hP : Byt P) (hQ : Byt Q) (n : Nat) : co (pm P Q) n = M P (co Q) n := by
  unfold pm
  rw [co_trim]
  by_cases hn : n < P.length + Q.length
  · rw [co_prow hP hQ _ (Nat.le_refl _) n hn, List.take_length]
  · rw [co_high (by rw [prow_len]; omega), M_high P (m := Q.length) (fun k hk => co_high hk) (by omega) (.inr (by omega))]
theorem pm_swap {P Q : List Nat} (hP : Byt P) (hQ : Byt Q) : trim (pm P Q) = trim (pm Q P) := trim_ext fun n => by rw [co_pm hP hQ, co_pm hQ hP, M_swap hP hQ]
theorem trim_len_le (L : List Nat) : (trim L).length ≤ L.length := trim_len L
theorem byt_trim {L : List Nat} (h : Byt L) : Byt (trim L) := fun x hx => by
  obtain ⟨Z, e, _⟩ := trim_split L
  exact h x (by rw [e]; exact List.mem_append_left _ hx)
theorem byt_plus {P Q : List Nat} (hP : Byt P) (hQ : Byt Q) : Byt (plus P Q) := by
  intro x hx
  simp only [plus, plusN, List.mem_map] at hx
  obtain ⟨i, _, rfl⟩ := hx
  exact Gf.xlt (getD_lt hP i) (getD_lt hQ i)
theorem byt_co {L : List Nat} (h : ∀ n, co L n < 256) : Byt L := by
  intro x hx
  obtain ⟨i, hi, rfl⟩ := List.getElem_of_mem hx
  have := h i
  simpa [co, hi] using this
theorem byt_pm {P Q : List Nat} (hP : Byt P) (hQ : Byt Q) : Byt (pm P Q) := byt_co fun n => by rw [co_pm hP hQ]; exact M_lt hP _ n
theorem trim_pm (P Q : List Nat) : trim (pm P Q) = pm P Q := trim_trim _
theorem pm_comm {P Q : List Nat} (hP : Byt P) (hQ : Byt Q) : pm P Q = pm Q P := by rw [← trim_pm P Q, ← trim_pm Q P, pm_swap hP hQ]
theorem pm_congr {P P' Q Q' : List Nat} (hP : Byt P) (hP' : Byt P') (hQ : Byt Q) (hQ' : Byt Q') (h : ∀ n, co P n = co P' n) (k : ∀ n, co Q n = co Q' n) : pm P Q = pm P' Q' := by
  rw [← trim_pm P Q, ← trim_pm P' Q']
  refine trim_ext fun n => ?_
  rw [co_pm hP hQ, co_pm hP' hQ', show co Q = co Q' from funext k, M_swap hP hQ', show co P = co P' from funext h, M_swap hQ' hP']
/-- Products may be put together as one likes. -/
theorem pm_assoc {P Q R : List Nat} (hP : Byt P) (hQ : Byt Q) (hR : Byt R) : pm (pm P Q) R = pm P (pm Q R) := by
  rw [← trim_pm (pm P Q) R, ← trim_pm P (pm Q R)]
  refine trim_ext fun n => ?_
  rw [co_pm (byt_pm hP hQ) hR, M_swap (byt_pm hP hQ) hR, show co (pm P Q) = M P (co Q) from funext (co_pm hP hQ), M_comm hR hP, co_pm hP (byt_pm hQ hR),
    show co (pm Q R) = M Q (co R) from funext (co_pm hQ hR), show M R (co Q) = M Q (co R) from funext (M_swap hR hQ)]
/-- Products spread over sums. -/
theorem pm_plus {P Q R : List Nat} (hP : Byt P) (hQ : Byt Q) (hR : Byt R) : pm P (trim (plus Q R)) = trim (plus (pm P Q) (pm P R)) := by
  rw [← trim_pm P (trim (plus Q R))]
  refine trim_ext fun n => ?_
  rw [co_pm hP (byt_trim (byt_plus hQ hR)), show co (trim (plus Q R)) = fun k => co Q k ^^^ co R k from funext fun k => by rw [co_trim, co_plus], M_add, co_plus, co_pm hP hQ, co_pm hP hR]
/-- The factor at the top of a product. -/
theorem M_top (P : List Nat) {g : Nat → Nat} {m : Nat} (hg : ∀ k, m < k → g k = 0) : ∀ {n}, P.length = n + 1 → M P g (n + m) = Gf.gm (co P n) (g m) := by
  induction P with
  | nil => intro n h; simp at h
  | cons a P ih =>
    intro n h
    rw [List.length_cons] at h
    rw [M_cons]
    cases n with
    | zero =>
      obtain rfl : P = [] := List.eq_nil_of_length_eq_zero (by omega)
      rw [Nat.zero_add]
      cases m <;> simp [co, sh, M]
    | succ n =>
      rw [hg _ (by omega), Gf.gm_zeroR, Nat.zero_xor, show n + 1 + m = (n + m) + 1 by omega, co_succ]
      exact ih (by omega)
/-- How long a product is: one less than both together; of a 0 it is 0. -/
theorem pm_length {P Q : List Nat} (hP : Byt P) (hQ : Byt Q) : (pm P Q).length = if (trim P).length = 0 ∨ (trim Q).length = 0 then 0 else (trim P).length + (trim Q).length - 1 := by
  have tP := byt_trim hP
  have tQ := byt_trim hQ
  rw [show pm P Q = pm (trim P) (trim Q) from pm_congr hP tP hQ tQ (fun n => (co_trim P n).symm) (fun n => (co_trim Q n).symm)]
  have e : ∀ n, co (pm (trim P) (trim Q)) n = M (trim P) (co (trim Q)) n := co_pm tP tQ
  by_cases h : (trim P).length = 0 ∨ (trim Q).length = 0
  · rw [if_pos h]
    have z : ∀ n, co (pm (trim P) (trim Q)) n = co [] n := by
      intro n
      rw [e, co_nil]
      rcases h with h | h
      · rw [List.eq_nil_of_length_eq_zero h]; rfl
      · rw [show co (trim Q) = fun _ => 0 from funext fun k => co_high (by omega), M_zero]
    have := trim_ext z
    rw [trim_pm, trim_nil] at this
    rw [this]; rfl
  · rw [if_neg h]
    have p1 : 0 < (trim P).length := by omega
    have q1 : 0 < (trim Q).length := by omega
    have top := M_top (trim P) (g := co (trim Q)) (m := (trim Q).length - 1) (fun k hk => co_high (by omega)) (n := (trim P).length - 1) (by omega)
    have ne : co (pm (trim P) (trim Q)) ((trim P).length - 1 + ((trim Q).length - 1)) ≠ 0 := by
      rw [e, top]
      intro c
      rcases (Gf.gm_eq_zero (co_lt tP _) (co_lt tQ _)).1 c with c | c
      · exact co_top p1 c
      · exact co_top q1 c
    have lo : (trim P).length - 1 + ((trim Q).length - 1) < (pm (trim P) (trim Q)).length := by
      apply Nat.lt_of_not_le
      intro c
      exact ne (co_high c)
    apply Nat.le_antisymm _ (by omega)
    apply Nat.le_of_not_lt
    intro c
    have t := trim_pm (trim P) (trim Q)
    have := co_top (L := pm (trim P) (trim Q)) (by rw [t]; omega)
    rw [t, e, M_high _ (m := (trim Q).length) (fun k hk => co_high hk) (by omega) (.inr (by omega))] at this
    exact this rfl
end Go.Proofs.Ytlccdceeppfleab
