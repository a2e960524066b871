/- Matrices that grow row by row, as the references make them. -/
import Derived.Test.YtjpibfnkchbglabInv2
namespace Go.Proofs.Ytjpibfnkchbglab
open Go.ChangeShapes Go.WideShapes Go.ChangeAt Go.RowKit Go.Shelf
/-- The slice value r holds the bytes L, and they lie in no outer list of blocks from base on. -/
def RowOk (base : Nat) (w : World) (r : Value) (L : List Nat) : Prop :=
  (∀ x ∈ L, x < 256) ∧ L.length ≤ 140737488351232 ∧ ∃ ao cap, r = .slice ao L.length cap ∧ L.length ≤ cap ∧ (ao = none → cap = 0) ∧
    (L = [] ∨ ∃ b off, ao = some ⟨b, off, none⟩ ∧ b < w.heap.size ∧ (base ≤ b → ∀ cur, w.heap[b]? ≠ some (.cells cur 52 (0, 0))) ∧ ∀ j, j < L.length → w.cell? ⟨b, off + j, none⟩ = some (.int .u8 (L[j]?.getD 0 : Nat)))
theorem RowOk.bs {base : Nat} {w : World} {r : Value} {L : List Nat} (h : RowOk base w r L) : Bs w.heap.size w r L := by
  obtain ⟨h1, h2, ao, cap, h3, h4, h5, h6⟩ := h
  refine ⟨h1, h2, ao, cap, h3, h4, h5, ?_⟩
  rcases h6 with h6 | ⟨b, off, h7, h8, _, h9⟩
  · exact .inl h6
  · exact .inr ⟨b, off, h7, h8, h9⟩
theorem RowOk.arg {base : Nat} {w : World} {r : Value} {L : List Nat} (h : Bs base w r L) (hb : base ≤ w.heap.size) : RowOk base w r L := by
  obtain ⟨h1, h2, ao, cap, h3, h4, h5, h6⟩ := h
  refine ⟨h1, h2, ao, cap, h3, h4, h5, ?_⟩
  rcases h6 with h6 | ⟨b, off, h7, h8, h9⟩
  · exact .inl h6
  · exact .inr ⟨b, off, h7, by omega, fun c => by omega, h9⟩
theorem RowOk.own {base base' : Nat} {w : World} {r : Value} {L : List Nat} (h : Ow base' w r L) : RowOk base w r L := by
  have hs := h.bs
  obtain ⟨h1, h2, ao, cap, h3, h4, h5, h6⟩ := hs
  refine ⟨h1, h2, ao, cap, h3, h4, h5, ?_⟩
  rcases h6 with h6 | ⟨b, off, h7, h8, h9⟩
  · exact .inl h6
  · refine .inr ⟨b, off, h7, h8, fun _ cur hc => ?_, h9⟩
    rcases h.1.2 with ⟨h10, _⟩ | ⟨g, cap', cur', h10, _, h11, _⟩
    · rw [h10] at h3
      injection h3 with h3 _ _
      rw [h7] at h3
      cases h3
    · rw [h10] at h3
      injection h3 with h3 _ _
      rw [h7] at h3
      injection h3 with h3
      injection h3 with h3 _ _
      subst h3
      rw [h11] at hc
      cases hc
theorem RowOk.keep {base : Nat} {w w' : World} {r : Value} {L : List Nat} (h : RowOk base w r L) (hs : w.heap.size ≤ w'.heap.size) (row : Option Nat) (hb : ∀ k, k < w.heap.size → some k ≠ row → w'.heap[k]? = w.heap[k]?) (hr : ∀ g, row = some g → base ≤ g ∧ ∃ cur, w.heap[g]? = some (.cells cur 52 (0, 0))) : RowOk base w' r L := by
  obtain ⟨h1, h2, ao, cap, h3, h4, h5, h6⟩ := h
  refine ⟨h1, h2, ao, cap, h3, h4, h5, ?_⟩
  rcases h6 with h6 | ⟨b, off, h7, h8, h9, h10⟩
  · exact .inl h6
  · have hne : some b ≠ row := by
      intro c
      obtain ⟨q1, cur, q2⟩ := hr b c.symm
      exact h9 q1 cur q2
    have he := hb b h8 hne
    refine .inr ⟨b, off, h7, by omega, fun c cur => by rw [he]; exact h9 c cur, fun j hj => ?_⟩
    rw [World.cell?_of_block (w := w) (a := ⟨b, off + j, none⟩) he]
    exact h10 j hj
theorem RowOk.below {base : Nat} {w w' : World} {r : Value} {L : List Nat} (h : RowOk base w r L) (hb : Below w.heap.size w w') : RowOk base w' r L := h.keep hb.size none (fun k hk _ => hb.block k hk) (fun g e => by cases e)
/-- the matrix A, made row by row by the call itself -/
def Mo (base : Nat) (w : World) (v : Value) (A : List (List Nat)) : Prop :=
  ∃ cells, w.ownsRow base 52 1 v A.length cells ∧ ∀ i, i < A.length → ∃ r, cells[i]? = some r ∧ RowOk base w r (A[i]?.getD [])
theorem Mo.nil (base : Nat) (w : World) : Mo base w (.slice none 0 0) [] := ⟨[], World.ownsRow_nil _ _ _ _, fun i hi => by simp at hi⟩
theorem Mo.shape {base : Nat} {w : World} {v : Value} {A : List (List Nat)} (h : Mo base w v A) : ∃ a c, v = .slice a A.length c := by
  obtain ⟨cells, h1, _⟩ := h
  rcases h1.2 with ⟨h2, h3⟩ | ⟨g, cap, cur, h2, _⟩
  · exact ⟨none, 0, by rw [h2, h3]⟩
  · exact ⟨_, _, h2⟩
theorem Mo.mx {base : Nat} {w : World} {v : Value} {A : List (List Nat)} (h : Mo base w v A) (hl : A.length ≤ 1000) : Mx w.heap.size w v A := by
  obtain ⟨cells, h1, h2⟩ := h
  rcases h1.2 with ⟨rfl, h3⟩ | ⟨g, cap, cur, rfl, h4, h5, h6, h7, h8, h9⟩
  · have : A = [] := List.eq_nil_of_length_eq_zero h3
    subst this
    exact Mx.nil _ _
  · refine ⟨by omega, _, _, rfl, h6, .inr ⟨g, 0, rfl, heap_lt h5, fun j hj => ?_⟩⟩
    obtain ⟨r, r1, r2⟩ := h2 j hj
    refine ⟨r, ?_, r2.bs⟩
    rw [Nat.zero_add, (OnlyAt.refl h5).read j]
    rw [← h9] at r1
    have hlt := (List.getElem?_eq_some_iff.1 r1).1
    rw [List.length_take] at hlt
    rw [List.getElem?_take_of_lt (by omega), Array.getElem?_toList] at r1
    exact r1
theorem Mo.below {base : Nat} {w w' : World} {v : Value} {A : List (List Nat)} (h : Mo base w v A) (hb : Below w.heap.size w w') : Mo base w' v A := by
  obtain ⟨cells, h1, h2⟩ := h
  refine ⟨cells, ⟨h1.1, ?_⟩, fun i hi => ?_⟩
  · rcases h1.2 with h3 | ⟨g, cap, cur, rfl, h4, h5, h6⟩
    · exact .inl h3
    · exact .inr ⟨g, cap, cur, rfl, h4, (hb.block g (heap_lt h5)).trans h5, h6⟩
  · obtain ⟨r, r1, r2⟩ := h2 i hi
    exact ⟨r, r1, r2.below hb⟩
/-- a row more -/
theorem mo_snoc {base : Nat} {w w' : World} {v v' r : Value} {A : List (List Nat)} {L : List Nat} {cells : List Value} (h1 : w.ownsRow base 52 1 v A.length cells) (h2 : ∀ i, i < A.length → ∃ r, cells[i]? = some r ∧ RowOk base w r (A[i]?.getD [])) (hr : RowOk base w r L) (ho : w'.ownsRow base 52 1 v' (A.length + 1) (cells ++ [r])) (hg : w.grownBy w' v.ownBlock) : Mo base w' v' (A ++ [L]) := by
  have key : ∀ {r L}, RowOk base w r L → RowOk base w' r L := fun h => h.keep hg.size v.ownBlock hg.block (fun g e => by
    rcases h1.2 with ⟨rfl, _⟩ | ⟨g', cap, cur, rfl, h4, h5, _⟩
    · cases e
    · cases e
      exact ⟨h4, cur, h5⟩)
  refine ⟨cells ++ [r], by rw [List.length_append]; exact ho, fun i hi => ?_⟩
  have hc : cells.length = A.length := by have := h1.1; omega
  rw [List.length_append, List.length_singleton] at hi
  by_cases c : i < A.length
  · obtain ⟨q, q1, q2⟩ := h2 i c
    refine ⟨q, by rw [List.getElem?_append_left (by omega)]; exact q1, ?_⟩
    rw [List.getElem?_append_left c]
    exact key q2
  · have e : i = A.length := by omega
    subst e
    refine ⟨r, by rw [List.getElem?_append_right (by omega), hc]; simp, ?_⟩
    rw [List.getElem?_append_right (Nat.le_refl _)]
    simp only [Nat.sub_self, List.getElem?_cons_zero, Option.getD_some]
    exact key hr
theorem news_row (w : World) (v : Value) (j : Nat) (u : Value) (h : [v][j]? = some u) : (w.alloc (.cells #[v] 52)).cell? ((⟨w.heap.size, 0, none⟩ : Addr).add j) = some u := by
  match j, h with
  | 0, h =>
    simp at h
    subst h
    rw [Addr.add_mid]
    simp [go_sem]
theorem cellsB_snoc (L : List Nat) (x : Nat) : cellsB (L ++ [x]) = cellsB L ++ [.int .u8 (x : Nat)] := by simp [cellsB]
theorem news_one (w : World) (v : Value) (j : Nat) (u : Value) (h : [v][j]? = some u) : (w.alloc (.cells #[v] 5)).cell? ((⟨w.heap.size, 0, none⟩ : Addr).add j) = some u := by
  match j, h with
  | 0, h =>
    simp at h
    subst h
    rw [Addr.add_mid]
    simp [go_sem]
theorem ow_snoc {base : Nat} {w w' : World} {v v' : Value} {L : List Nat} {x : Nat} (h : Ow base w v L) (hl : L.length + 1 ≤ 140737488351232) (hx : x < 256) (ho : w'.ownsRow base 5 1 v' (L.length + 1) (cellsB L ++ [.int .u8 (x : Nat)])) : Ow base w' v' (L ++ [x]) := by
  refine ⟨?_, ?_, ?_⟩
  · rw [List.length_append, cellsB_snoc]; exact ho
  · intro y hy
    rcases List.mem_append.1 hy with hy | hy
    · exact h.2.1 y hy
    · simp at hy; subst hy; exact hx
  · rw [List.length_append]; exact hl
theorem Ow.block_le {base : Nat} {w : World} {v : Value} {L : List Nat} (h : Ow base w v L) : ∀ k, v.ownBlock = some k → base ≤ k := by
  rcases h.1.2 with ⟨rfl, h4⟩ | ⟨g, cap, cur, rfl, h5, h6, h7⟩
  · intro k e; cases e
  · intro k e; cases e; exact h5
theorem Ow.shape {base : Nat} {w : World} {v : Value} {L : List Nat} (h : Ow base w v L) : ∃ a c, v = .slice a L.length c := by
  obtain ⟨_, _, a, c, h, _⟩ := h.bs
  exact ⟨a, c, h⟩
theorem tab_succ (n c : Nat) (f : Nat → Nat → Nat) : tab (n + 1) c f = tab n c f ++ [rl c (f n)] := by simp [tab, List.range_succ]
theorem rl_succ (c : Nat) (r : Nat → Nat) : rl (c + 1) r = rl c r ++ [r c] := by simp [rl, List.range_succ]
end Go.Proofs.Ytjpibfnkchbglab
