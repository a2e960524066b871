/- The plain mathematics of products of matrices: however put together they are the same, and times Unit nothing changes. -/
import Derived.Test.YtjpibfnkchbglabErr
namespace Go.Proofs.Ytjpibfnkchbglab
open Go.ChangeShapes Go.WideShapes Go.ChangeAt Go.RowKit Go.Shelf
theorem dot_congr {x x' y y' : Nat → Nat} : ∀ {t : Nat}, (∀ j, j < t → x j = x' j) → (∀ j, j < t → y j = y' j) → dot t x y = dot t x' y'
  | 0, _, _ => rfl
  | t + 1, h, k => by rw [dot, dot, dot_congr (fun j hj => h j (by omega)) (fun j hj => k j (by omega)), h t (by omega), k t (by omega)]
theorem dot_add (x p q : Nat → Nat) : ∀ t, dot t x (fun l => p l ^^^ q l) = dot t x p ^^^ dot t x q
  | 0 => by show (0 : Nat) = 0 ^^^ 0; decide
  | t + 1 => by rw [dot, dot, dot, dot_add x p q t, Gf.gm_addR, Gf.xor_swap]
theorem dot_zero (x : Nat → Nat) : ∀ t, dot t x (fun _ => 0) = 0
  | 0 => rfl
  | t + 1 => by rw [dot, dot_zero x t, Gf.gm_zeroR]; rfl
theorem dot_mul {x y : Nat → Nat} {s : Nat} : ∀ {t : Nat}, (∀ j, j < t → x j < 256) → (∀ j, j < t → y j < 256) → Gf.gm (dot t x y) s = dot t x (fun l => Gf.gm (y l) s)
  | 0, _, _ => Gf.gm_zeroL s
  | t + 1, hx, hy => by
    rw [dot, dot, Gf.gm_addL (dot_lt fun j hj => hx j (by omega)) (Gf.gm_lt (hx t (by omega))), dot_mul (fun j hj => hx j (by omega)) (fun j hj => hy j (by omega)), Gf.gm_assoc (hx t (by omega)) (hy t (by omega))]
theorem dot_assoc {x : Nat → Nat} {b : Nat → Nat → Nat} {c : Nat → Nat} {n : Nat} (hx : ∀ j, j < n → x j < 256) : ∀ {m : Nat}, (∀ l j, l < n → j < m → b l j < 256) → dot m (fun j => dot n x (fun l => b l j)) c = dot n x (fun l => dot m (b l) c)
  | 0, _ => (dot_zero x n).symm
  | m + 1, hb => by
    have e : (fun l => dot (m + 1) (b l) c) = fun l => dot m (b l) c ^^^ Gf.gm (b l m) (c m) := rfl
    rw [dot, dot_assoc hx (fun l j hl hj => hb l j hl (by omega)), dot_mul hx (fun l hl => hb l m hl (by omega)), e, dot_add]
theorem dot_uf {i : Nat} {y : Nat → Nat} : ∀ {t : Nat}, (∀ j, j < t → y j < 256) → dot t (uf i) y = if i < t then y i else 0
  | 0, _ => by rw [if_neg (by omega)]; rfl
  | t + 1, h => by
    rw [dot, dot_uf fun j hj => h j (by omega)]
    unfold uf
    by_cases e : i = t
    · subst e
      rw [if_neg (by omega), if_pos rfl, if_pos (by omega), Gf.gm_oneL (h i (by omega)), Nat.zero_xor]
    · rw [if_neg e, Gf.gm_zeroL, Nat.xor_zero]
      by_cases d : i < t
      · rw [if_pos d, if_pos (by omega)]
      · rw [if_neg d, if_neg (by omega)]
theorem dot_fu {k : Nat} {x : Nat → Nat} : ∀ {t : Nat}, (∀ j, j < t → x j < 256) → dot t x (fun j => uf j k) = if k < t then x k else 0
  | 0, _ => by rw [if_neg (by omega)]; rfl
  | t + 1, h => by
    rw [dot, dot_fu fun j hj => h j (by omega)]
    unfold uf
    by_cases e : t = k
    · subst e
      rw [if_neg (by omega), if_pos rfl, if_pos (by omega), Gf.gm_oneR (h t (by omega)), Nat.zero_xor]
    · rw [if_neg e, Gf.gm_zeroR, Nat.xor_zero]
      by_cases d : k < t
      · rw [if_pos d, if_pos (by omega)]
      · rw [if_neg d, if_neg (by omega)]
theorem tab_rect {n c : Nat} (f : Nat → Nat → Nat) (h1 : 1 ≤ n) (h2 : n ≤ 16) (h3 : 1 ≤ c) (h4 : c ≤ 16) : Rect (tab n c f) n c := ⟨tab_len _ _ _, fun j hj => by rw [tab_get f hj, rl_len], h1, h2, h3, h4⟩
theorem tab_congr {n c : Nat} {f g : Nat → Nat → Nat} (h : ∀ i k, i < n → k < c → f i k = g i k) : tab n c f = tab n c g := by
  unfold tab
  exact List.map_congr_left fun i hi => rl_congr fun k hk => h i k (List.mem_range.1 hi) hk
theorem rect_tab {A : List (List Nat)} {n c : Nat} (h : Rect A n c) : tab n c (ent A) = A := by
  apply List.ext_getElem?
  intro i
  by_cases hi : i < n
  · have hA : i < A.length := by rw [h.len]; exact hi
    rw [List.getElem?_eq_getElem hA]
    have e : (tab n c (ent A))[i]? = some (rl c (ent A i)) := by simp [tab, hi]
    rw [e]
    congr 1
    have hr := h.row i hi
    rw [List.getElem?_eq_getElem hA, Option.getD_some] at hr
    apply List.ext_getElem
    · rw [rl_len, hr]
    · intro k h1 h2
      simp [rl, ent, hA, h2]
  · rw [List.getElem?_eq_none (by rw [tab_len]; omega), List.getElem?_eq_none (by rw [h.len]; omega)]
/-- bytes alone -/
def Bym (A : List (List Nat)) : Prop := ∀ i k, ent A i k < 256
theorem rect_uniq {A : List (List Nat)} {n c : Nat} (h : Rect A n c) : A.length = n ∧ (A[0]?.getD []).length = c := ⟨h.len, h.row 0 (by have := h.n1; omega)⟩
theorem mme_zero {A B : List (List Nat)} (h : mme A B = 0) : Rect A A.length B.length ∧ Rect B B.length (B[0]?.getD []).length := by
  unfold mme at h
  by_cases h1 : chk A ≠ 0
  · rw [if_pos h1] at h; exact absurd h h1
  · rw [if_neg h1] at h
    by_cases h2 : chk B ≠ 0
    · rw [if_pos h2] at h; exact absurd h h2
    · rw [if_neg h2] at h
      by_cases h3 : (A[0]?.getD []).length ≠ B.length
      · rw [if_pos h3] at h; cases h
      · have rA := chk_rect (A := A) (by omega)
        rw [show (A[0]?.getD []).length = B.length by omega] at rA
        exact ⟨rA, chk_rect (by omega)⟩
theorem mme_of {A B : List (List Nat)} {n t c : Nat} (rA : Rect A n t) (rB : Rect B t c) : mme A B = 0 ∧ mmp A B = tab n c (pf A B t) := by
  have e1 := rect_uniq rA
  have e2 := rect_uniq rB
  have h : mme A B = 0 := by
    unfold mme
    rw [rect_chk rA, rect_chk rB, e1.2, e2.1, if_neg (by decide), if_neg (by decide), if_neg (by simp)]
  refine ⟨h, ?_⟩
  unfold mmp
  rw [h, if_neg (by decide), e1.1, e2.1, e2.2]
/-- PRODUCTS HOWEVER PUT TOGETHER ARE THE SAME -/
theorem ring_assoc {A B C : List (List Nat)} (hA : Bym A) (hB : Bym B) (h1 : mme A B = 0) (h2 : mme B C = 0) : mme (mmp A B) C = 0 ∧ mme A (mmp B C) = 0 ∧ mmp (mmp A B) C = mmp A (mmp B C) := by
  obtain ⟨rA, rB⟩ := mme_zero h1
  obtain ⟨rB', rC⟩ := mme_zero h2
  have eB := (rect_uniq rB').2
  rw [eB] at rB
  obtain ⟨_, p1⟩ := mme_of rA rB
  obtain ⟨_, p2⟩ := mme_of rB rC
  rw [p1, p2]
  have r1 := tab_rect (pf A B B.length) rA.n1 rA.n16 rB.c1 rB.c16
  have r2 := tab_rect (pf B C C.length) rB.n1 rB.n16 rC.c1 rC.c16
  obtain ⟨q1, q2⟩ := mme_of r1 rC
  obtain ⟨q3, q4⟩ := mme_of rA r2
  refine ⟨q1, q3, ?_⟩
  rw [q2, q4]
  refine tab_congr fun i k hi hk => ?_
  unfold pf
  have e1 : dot C.length (ent (tab A.length C.length (fun i k => dot B.length (ent A i) (fun j => ent B j k))) i) (fun j => ent C j k) = dot C.length (fun j => dot B.length (ent A i) (fun l => ent B l j)) (fun j => ent C j k) := dot_congr (fun j hj => ent_tab hi hj) (fun _ _ => rfl)
  have e2 : dot B.length (ent A i) (fun j => ent (tab B.length (C[0]?.getD []).length (fun i k => dot C.length (ent B i) (fun j => ent C j k))) j k) = dot B.length (ent A i) (fun l => dot C.length (ent B l) (fun j => ent C j k)) := dot_congr (fun _ _ => rfl) (fun j hj => ent_tab hj hk)
  exact e1.trans ((dot_assoc (fun j _ => hA i j) (fun l j _ _ => hB l j)).trans e2.symm)
/-- TIMES UNIT NOTHING CHANGES -/
theorem ring_unit {A : List (List Nat)} {n c : Nat} (hA : Bym A) (rA : Rect A n c) : mme (tab n n uf) A = 0 ∧ mmp (tab n n uf) A = A ∧ mme A (tab c c uf) = 0 ∧ mmp A (tab c c uf) = A := by
  obtain ⟨q1, q2⟩ := mme_of (tab_rect uf rA.n1 rA.n16 rA.n1 rA.n16) rA
  obtain ⟨q3, q4⟩ := mme_of rA (tab_rect uf rA.c1 rA.c16 rA.c1 rA.c16)
  refine ⟨q1, ?_, q3, ?_⟩
  · rw [q2]
    conv => rhs; rw [← rect_tab rA]
    refine tab_congr fun i k hi _ => ?_
    unfold pf
    rw [dot_congr (x' := uf i) (y' := fun j => ent A j k) (fun j hj => ent_tab hi hj) (fun _ _ => rfl), dot_uf (fun j _ => hA j k), if_pos hi]
  · rw [q4]
    conv => rhs; rw [← rect_tab rA]
    refine tab_congr fun i k _ hk => ?_
    unfold pf
    rw [dot_congr (x' := ent A i) (y' := fun j => uf j k) (fun _ _ => rfl) (fun j hj => ent_tab hj hk), dot_fu (fun j _ => hA i j), if_pos hk]
end Go.Proofs.Ytjpibfnkchbglab
