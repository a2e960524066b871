/- Sums of polynomials: what the sum of two lists is, and its value. -/
import Derived.Test.YtlccdceeppfleabPlusOf
namespace Go.Proofs.Ytlccdceeppfleab
open Go.ChangeShapes Go.WideShapes Go.ChangeAt Go.RowKit Go.Shelf
theorem xor_four (a b c d : Nat) : a ^^^ b ^^^ (c ^^^ d) = a ^^^ c ^^^ (b ^^^ d) := by
  rw [Nat.xor_assoc, ← Nat.xor_assoc b, Nat.xor_comm b c, Nat.xor_assoc c, ← Nat.xor_assoc a]
theorem plus_cons (a b : Nat) (P Q : List Nat) : plus (a :: P) (b :: Q) = (a ^^^ b) :: plus P Q := by
  unfold plus plusN
  rw [List.length_cons, List.length_cons, show max (P.length + 1) (Q.length + 1) = max P.length Q.length + 1 by omega, List.range_succ_eq_map]
  simp [Function.comp_def]
theorem plus_nil_left : ∀ Q : List Nat, plus [] Q = Q := by
  intro Q
  apply List.ext_getElem
  · simp [plus, plusN]
  · intro i h1 h2
    simp [plus, plusN, h2]
theorem plus_nil_right : ∀ P : List Nat, plus P [] = P := by
  intro P
  apply List.ext_getElem
  · simp [plus, plusN]
  · intro i h1 h2
    simp [plus, plusN, h2]
theorem pval_plus' : ∀ {P Q : List Nat} {x : Nat}, Byt P → Byt Q → x < 256 → pval (plus P Q) x = pval P x ^^^ pval Q x
  | [], Q, x, _, _, _ => by rw [plus_nil_left, pval_nil, Nat.zero_xor]
  | a :: P, [], x, _, _, _ => by rw [plus_nil_right, pval_nil, Nat.xor_zero]
  | a :: P, b :: Q, x, hP, hQ, hx => by
    rw [plus_cons, pval_cons, pval_cons, pval_cons, pval_plus' hP.tail hQ.tail hx, Gf.gm_addL (pval_lt hP.tail x) (pval_lt hQ.tail x)]
    exact xor_four _ _ _ _
theorem pval_plus {P Q : List Nat} {x : Nat} (hP : Byt P) (hQ : Byt Q) (hx : x < 256) : pval (trim (plus P Q)) x = pval P x ^^^ pval Q x := by rw [pval_trim, pval_plus' hP hQ hx]
end Go.Proofs.Ytlccdceeppfleab
