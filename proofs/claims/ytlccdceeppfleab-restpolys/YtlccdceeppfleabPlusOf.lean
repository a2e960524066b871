/- What the reference's PlusOf answers: the sum of two lists, factor by factor, trimmed, in new memory, for all lists of bytes. -/
import Derived.Test.YtlccdceeppfleabPolyA
namespace Go.Proofs.Ytlccdceeppfleab
open Go.ChangeShapes Go.WideShapes Go.ChangeAt Go.RowKit Go.Shelf
/-- the first k factors of a sum -/
def plusN (P Q : List Nat) (k : Nat) : List Nat := (List.range k).map fun i => P[i]?.getD 0 ^^^ Q[i]?.getD 0
/-- a sum, noughts at its end and all -/
def plus (P Q : List Nat) : List Nat := plusN P Q (max P.length Q.length)
theorem plusN_len (P Q : List Nat) (k : Nat) : (plusN P Q k).length = k := by simp [plusN]
theorem plusN_succ (P Q : List Nat) (k : Nat) : plusN P Q (k + 1) = plusN P Q k ++ [P[k]?.getD 0 ^^^ Q[k]?.getD 0] := by
  simp [plusN, List.range_succ]
theorem cellsB_snoc (L : List Nat) (x : Nat) : cellsB (L ++ [x]) = cellsB L ++ [.int .u8 (x : Nat)] := by simp [cellsB]
theorem Ow.block_le {base : Nat} {w : World} {v : Value} {L : List Nat} (h : Ow base w v L) : ∀ k, v.ownBlock = some k → base ≤ k := by
  rcases h.1.2 with ⟨rfl, h4⟩ | ⟨g, cap, cur, rfl, h5, h6, h7⟩
  · intro k e; cases e
  · intro k e; cases e; exact h5
theorem news_one (w : World) (v : Value) (j : Nat) (u : Value) (h : [v][j]? = some u) : (w.alloc (.cells #[v] 5)).cell? ((⟨w.heap.size, 0, none⟩ : Addr).add j) = some u := by
  match j, h with
  | 0, h =>
    simp at h
    subst h
    exact (Boxed.new w 5 v).cell
/-- One byte more behind a list that the call made itself. -/
theorem ow_snoc {base : Nat} {w w' : World} {v v' : Value} {L : List Nat} {x : Nat} (h : Ow base w v L) (hl : L.length + 1 ≤ 140737488351232) (hx : x < 256) (ho : w'.ownsRow base 5 1 v' (L.length + 1) (cellsB L ++ [.int .u8 (x : Nat)])) : Ow base w' v' (L ++ [x]) := by
  refine ⟨?_, ?_, ?_⟩
  · rw [List.length_append, cellsB_snoc]; exact ho
  · intro y hy
    rcases List.mem_append.1 hy with hy | hy
    · exact h.2.1 y hy
    · simp at hy; subst hy; exact hx
  · rw [List.length_append]; exact hl
end Go.Proofs.Ytlccdceeppfleab
