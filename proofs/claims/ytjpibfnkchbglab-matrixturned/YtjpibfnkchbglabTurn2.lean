/- The plain mathematics of columns as rows: of a product, and of an inverse. -/
import Derived.Test.YtjpibfnkchbglabTurn
namespace Go.Proofs.Ytjpibfnkchbglab
open Go.ChangeShapes Go.WideShapes Go.ChangeAt Go.RowKit Go.Shelf
theorem uf_comm (i j : Nat) : uf i j = uf j i := by
  unfold uf
  by_cases h : i = j
  · rw [if_pos h, if_pos h.symm]
  · rw [if_neg h, if_neg (Ne.symm h)]
theorem turned_rect {A : List (List Nat)} {n c : Nat} (rA : Rect A n c) : Rect (tab c n (tf A)) c n := tab_rect (tf A) rA.c1 rA.c16 rA.n1 rA.n16
/-- a product's columns as rows are the product of the second one's and the first one's -/
theorem turned_mul {A B : List (List Nat)} {n t c : Nat} (hA : Bym A) (hB : Bym B) (rA : Rect A n t) (rB : Rect B t c) : mme (tab c t (tf B)) (tab t n (tf A)) = 0 ∧ mmp (tab c t (tf B)) (tab t n (tf A)) = tab c n (tf (tab n c (pf A B t))) := by
  obtain ⟨q1, q2⟩ := mme_of (turned_rect rB) (turned_rect rA)
  refine ⟨q1, ?_⟩
  rw [q2]
  refine tab_congr fun k i hk hi => ?_
  show pf _ _ t k i = ent (tab n c (pf A B t)) i k
  rw [ent_tab hi hk]
  unfold pf
  have e1 : dot t (ent (tab c t (tf B)) k) (fun j => ent (tab t n (tf A)) j i) = dot t (fun j => ent B j k) (fun j => ent A i j) := dot_congr (fun j hj => (ent_tab hk hj : ent (tab c t (tf B)) k j = tf B k j)) (fun j hj => (ent_tab hj hi : ent (tab t n (tf A)) j i = tf A j i))
  rw [e1]
  exact dot_comm (fun j _ => hB j k) (fun j _ => hA i j)
/-- an inverse's are the inverse of them -/
theorem turned_inv {A : List (List Nat)} {n : Nat} (hA : Bym A) (rA : Rect A n n) (h : ive A = 0) : ive (tab n n (tf A)) = 0 ∧ ivm A = tab n n (iv A n) ∧ ivm (tab n n (tf A)) = tab n n (tf (tab n n (iv A n))) := by
  obtain ⟨_, h3, e⟩ := ive_zero h
  rw [(rect_uniq rA).1] at h3 e
  obtain ⟨i1, i2, i3⟩ := inverse_both hA h3
  have bT : Bym (tab n n (tf A)) := bym_tab fun i j _ _ => hA j i
  have hb : Bm n n (fun i j => iv A n j i) := fun i j hi hj => i3 j i hj hi
  have hinv : IsInv n (fun i j => iv A n j i) (ent (tab n n (tf A))) := by
    intro i j hi hj
    have e1 : dot n (fun l => iv A n l i) (fun l => ent (tab n n (tf A)) l j) = dot n (fun l => iv A n l i) (fun l => ent A j l) := dot_congr (fun _ _ => rfl) (fun l hl => (ent_tab hl hj : ent (tab n n (tf A)) l j = tf A l j))
    show dot n (fun l => iv A n l i) (fun l => ent (tab n n (tf A)) l j) = _
    rw [e1, dot_comm (fun l hl => i3 l i hl hi) (fun l _ => hA j l), uf_comm]
    exact i2 j i hj hi
  obtain ⟨r1, r2⟩ := ive_of bT (turned_rect rA) hb hinv
  refine ⟨r1, e, ?_⟩
  rw [r2]
  obtain ⟨_, s2, s3⟩ := inverse_both bT (inverse_if bT hb hinv)
  refine tab_congr fun i j hi hj => ?_
  rw [← inverse_one (fun x y _ _ => bT x y) hb s3 hinv s2 i j hi hj]
  exact (ent_tab hj hi).symm
end Go.Proofs.Ytjpibfnkchbglab
