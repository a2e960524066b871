/- Lists of numbers that a call has made itself, growing by append. -/
import Derived.Test.YtegpniiokiejhaaIs
import Derived.Test.YtegpniiokiejhaaLy
namespace Go.Proofs.Ytegpniiokiejhaa
open Go.ChangeShapes Go.WideShapes Go.ChangeAt Go.RowKit Go.Shelf
/-- numbers as cells -/
def cellsZ (L : List Int) : List Value := L.map fun x => .int .i64 x
/-- The slice value v was made by the call itself, at or beyond block 'base', and holds the numbers L. -/
def OwI (base : Nat) (w : World) (v : Value) (L : List Int) : Prop := w.ownsRow base 3 1 v L.length (cellsZ L) ∧ L.length ≤ 1000
theorem cellsZ_get {L : List Int} {j : Nat} (h : j < L.length) : (cellsZ L)[j]? = some (.int .i64 (L[j]?.getD 0)) := by
  simp [cellsZ, h]
theorem Is.nil (n : Nat) (w : World) : Is n w (.slice none 0 0) [] := ⟨by simp, none, 0, rfl, by simp, .inl rfl⟩
theorem OwI.is {base : Nat} {w : World} {v : Value} {L : List Int} (h : OwI base w v L) : Is w.heap.size w v L := by
  obtain ⟨h1, h3⟩ := h
  rcases h1.2 with ⟨rfl, h4⟩ | ⟨g, cap, cur, rfl, h5, h6, h7, h8, h9⟩
  · obtain rfl : L = [] := List.eq_nil_of_length_eq_zero h4
    exact Is.nil _ _
  · have hg : g < w.heap.size := (Array.getElem?_eq_some_iff.1 h6).1
    refine ⟨by omega, _, cap, rfl, h7, ?_⟩
    by_cases hL : L = []
    · exact .inl hL
    · refine .inr ⟨g, 0, rfl, hg, fun j hj => ?_⟩
      rw [Nat.zero_add, World.ownsRow.cellAt (n := L.length) h1 j (by omega), cellsZ_get hj]
theorem OwI.below {base n : Nat} {w w' : World} {v : Value} {L : List Int} (h : OwI base w v L) (hb : Below n w w') (hn : w.heap.size ≤ n) : OwI base w' v L := by
  obtain ⟨h1, h3⟩ := h
  refine ⟨⟨h1.1, ?_⟩, h3⟩
  rcases h1.2 with h4 | ⟨g, cap, cur, rfl, h5, h6, h7⟩
  · exact .inl h4
  · have hg : g < w.heap.size := (Array.getElem?_eq_some_iff.1 h6).1
    exact .inr ⟨g, cap, cur, rfl, h5, (hb.block g (by omega)).trans h6, h7⟩
theorem OwI.block_le {base : Nat} {w : World} {v : Value} {L : List Int} (h : OwI base w v L) : ∀ k, v.ownBlock = some k → base ≤ k := by
  rcases h.1.2 with ⟨rfl, h4⟩ | ⟨g, cap, cur, rfl, h5, h6, h7⟩
  · intro k e; cases e
  · intro k e; cases e; exact h5
theorem OwI.shape {base : Nat} {w : World} {v : Value} {L : List Int} (h : OwI base w v L) : ∃ a c, v = .slice a L.length c := h.is.shape
theorem cellsZ_snoc (L : List Int) (x : Int) : cellsZ (L ++ [x]) = cellsZ L ++ [.int .i64 x] := by simp [cellsZ]
theorem news_int (w : World) (v : Value) (j : Nat) (u : Value) (h : [v][j]? = some u) : (w.alloc (.cells #[v] 3)).cell? ((⟨w.heap.size, 0, none⟩ : Addr).add j) = some u := by
  match j, h with
  | 0, h =>
    simp at h
    subst h
    have h := heap_new w (.cells #[v] 3)
    rw [show (⟨w.heap.size, 0, none⟩ : Addr).add 0 = ⟨w.heap.size, 0, none⟩ from rfl]
    unfold World.cell?
    rw [h]
    rfl
/-- One number more behind a list that the call made itself. -/
theorem owi_snoc {base : Nat} {w' : World} {v' : Value} {L : List Int} {x : Int} (hl : L.length + 1 ≤ 1000) (ho : w'.ownsRow base 3 1 v' (L.length + 1) (cellsZ L ++ [.int .i64 x])) : OwI base w' v' (L ++ [x]) := by
  refine ⟨?_, ?_⟩
  · rw [List.length_append, cellsZ_snoc]; exact ho
  · rw [List.length_append]; exact hl
theorem owi_nil (base : Nat) (w : World) : OwI base w (.slice none 0 0) [] := ⟨World.ownsRow_nil _ _ _ _, by simp⟩
end Go.Proofs.Ytegpniiokiejhaa
