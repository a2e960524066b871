/- Two lists together: the latest of both. -/
import Derived.Test.YtcplbpnpcmgjfabVf
namespace Go.Proofs.Ytcplbpnpcmgjfab
open Go.RowKit
theorem ltr_assoc (a b c : Cp) : ltr (ltr a b) c = ltr a (ltr b c) := by
  cases h1 : slt a.1 b.1 with
  | true =>
    have e1 : ltr a b = b := if_pos h1
    rw [e1]
    cases h2 : slt b.1 c.1 with
    | true =>
      have e2 : ltr b c = c := if_pos h2
      rw [e2]
      exact (if_pos (slt_tr h1 h2) : ltr a c = c).symm
    | false =>
      have e2 : ltr b c = b := if_neg (by rw [h2]; decide)
      rw [e2, e1]
  | false =>
    have e1 : ltr a b = a := if_neg (by rw [h1]; decide)
    rw [e1]
    cases h2 : slt b.1 c.1 with
    | true =>
      have e2 : ltr b c = c := if_pos h2
      rw [e2]
    | false =>
      have e2 : ltr b c = b := if_neg (by rw [h2]; decide)
      rw [e2, e1]
      exact if_neg (by rw [slt_nn h1 h2]; decide)
theorem fold_ltr (a : Cp) : ∀ (L : List Cp) (b : Cp), L.foldl ltr (ltr a b) = ltr a (L.foldl ltr b)
  | [], _ => rfl
  | c :: L, b => by
    show L.foldl ltr (ltr (ltr a b) c) = ltr a (L.foldl ltr (ltr b c))
    rw [ltr_assoc, fold_ltr a L]
theorem lats_cons (a : Cp) (L : List Cp) : lats (a :: L) = L.foldl ltr a := by
  unfold lats latK
  simp
theorem lats_app (a b : Cp) (L M : List Cp) : lats ((a :: L) ++ (b :: M)) = ltr (lats (a :: L)) (lats (b :: M)) := by
  rw [lats_cons, lats_cons, List.cons_append, lats_cons, List.foldl_append, List.foldl_cons, fold_ltr]
theorem lats_both {A B : List Cp} (hA : A ≠ []) (hB : B ≠ []) : lats (A ++ B) = ltr (lats A) (lats B) := by
  cases A with
  | nil => exact absurd rfl hA
  | cons a A =>
    cases B with
    | nil => exact absurd rfl hB
    | cons b B => exact lats_app a b A B
theorem lats_ok {A : List Cp} (hA : A ≠ []) (h : clE A = 0) : cck (lats A) = 0 := by
  obtain ⟨j, hj, e⟩ := lats_top (L := A) (by cases A with | nil => exact absurd rfl hA | cons => simp)
  rw [e, List.getElem?_eq_getElem hj.1]
  exact (clE_zero h).2 _ (List.getElem_mem hj.1)
theorem cps_ne {len : Nat} {g : Nat → List Value} (h : len ≠ 0) : cpsOf len g ≠ [] := fun e => h (by have := cps_len len g; rw [e] at this; exact this.symm)
theorem cps_join (len len' : Nat) (g g' : Nat → List Value) : cpsOf (0 + len + len') (joinG (0 + len) (joinG 0 (fun _ => []) g) g') = cpsOf len g ++ cpsOf len' g' := by
  refine List.ext_getElem? fun k => ?_
  rw [List.getElem?_append, cps_len, Nat.zero_add]
  by_cases h1 : k < len
  · rw [if_pos h1]
    have : Nat.blt k len = true := by rw [Nat.blt_eq]; exact h1
    have h0 : Nat.blt k 0 = false := by cases k <;> rfl
    simp [cpsOf, joinG, this, h0, h1, show k < len + len' by omega]
  · rw [if_neg h1]
    by_cases h2 : k < len + len'
    · have : Nat.blt k len = false := by
        cases h : Nat.blt k len with
        | false => rfl
        | true => rw [Nat.blt_eq] at h; omega
      simp [cpsOf, joinG, this, h2, show k - len < len' by omega]
    · simp [cpsOf, h2, show ¬ k - len < len' by omega]
end Go.Proofs.Ytcplbpnpcmgjfab
