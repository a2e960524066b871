/- Nodes that weigh all the same; lists that grow by append. -/
import Derived.Test.YtegpniiokiejhabQu
namespace Go.Proofs.Ytegpniiokiejhab
open Go.ChangeShapes Go.WideShapes Go.ChangeAt Go.RowKit Go.Shelf
theorem rep_ok {n : Nat} {x : Int} (n1 : 1 ≤ n) (n2 : n ≤ 12) (x1 : 1 ≤ x) (x2 : x ≤ 100) : Wok (List.replicate n x) :=
  ⟨by simp; omega, by simp; omega, fun y hy => by have := (List.mem_replicate.1 hy).2; omega⟩
theorem rep_pre {n : Nat} {x : Int} : ∀ k, k ≤ n → pre k (srt (List.replicate n x)) = (k : Int) * x
  | 0, _ => by simp [pre]
  | k + 1, hk => by
    have hl : k < (srt (List.replicate n x)).length := by rw [srt_length]; simp; omega
    have hm := srt_mem (L := List.replicate n x) (y := (srt (List.replicate n x))[k]?.getD 0) (List.replicate n x).length (Nat.le_refl _) (by rw [List.take_length, List.getElem?_eq_getElem hl]; exact List.getElem_mem _)
    rw [pre_succ hl, rep_pre k (by omega), (List.mem_replicate.1 hm).2]
    push_cast
    rw [Int.add_mul]
    omega
theorem rep_sum (n : Nat) (x : Int) : (List.replicate n x).sum = (n : Int) * x := by
  have := srt_total (List.replicate n x)
  rw [← this, List.length_replicate, rep_pre n (Nat.le_refl _)]
theorem half_lt {n : Nat} {x : Int} (n2 : n ≤ 12) (x1 : 1 ≤ x) : ((n / 2 : Nat) : Int) * x < (n : Int) * x / 2 + 1 := by
  have h : n = 0 ∨ n = 1 ∨ n = 2 ∨ n = 3 ∨ n = 4 ∨ n = 5 ∨ n = 6 ∨ n = 7 ∨ n = 8 ∨ n = 9 ∨ n = 10 ∨ n = 11 ∨ n = 12 := by omega
  rcases h with rfl | rfl | rfl | rfl | rfl | rfl | rfl | rfl | rfl | rfl | rfl | rfl | rfl <;> simp <;> omega
theorem half_ge {n : Nat} {x : Int} (n2 : n ≤ 12) (x1 : 1 ≤ x) : (n : Int) * x / 2 + 1 ≤ ((n / 2 + 1 : Nat) : Int) * x := by
  have h : n = 0 ∨ n = 1 ∨ n = 2 ∨ n = 3 ∨ n = 4 ∨ n = 5 ∨ n = 6 ∨ n = 7 ∨ n = 8 ∨ n = 9 ∨ n = 10 ∨ n = 11 ∨ n = 12 := by omega
  rcases h with rfl | rfl | rfl | rfl | rfl | rfl | rfl | rfl | rfl | rfl | rfl | rfl | rfl <;> simp <;> omega
theorem rest_ge {n : Nat} {x : Int} (n2 : n ≤ 12) (x1 : 1 ≤ x) : (n : Int) * x - ((n : Int) * x / 2 + 1) + 1 ≤ ((n - (n / 2 + 1) + 1 : Nat) : Int) * x := by
  have h : n = 0 ∨ n = 1 ∨ n = 2 ∨ n = 3 ∨ n = 4 ∨ n = 5 ∨ n = 6 ∨ n = 7 ∨ n = 8 ∨ n = 9 ∨ n = 10 ∨ n = 11 ∨ n = 12 := by omega
  rcases h with rfl | rfl | rfl | rfl | rfl | rfl | rfl | rfl | rfl | rfl | rfl | rfl | rfl <;> simp <;> omega
theorem rest_lt {n : Nat} {x : Int} (n1 : 1 ≤ n) (n2 : n ≤ 12) (x1 : 1 ≤ x) : ((n - (n / 2 + 1) : Nat) : Int) * x < (n : Int) * x - ((n : Int) * x / 2 + 1) + 1 := by
  have h : n = 1 ∨ n = 2 ∨ n = 3 ∨ n = 4 ∨ n = 5 ∨ n = 6 ∨ n = 7 ∨ n = 8 ∨ n = 9 ∨ n = 10 ∨ n = 11 ∨ n = 12 := by omega
  rcases h with rfl | rfl | rfl | rfl | rfl | rfl | rfl | rfl | rfl | rfl | rfl | rfl <;> simp <;> omega
theorem even_ok {n : Nat} {x : Int} (n1 : 1 ≤ n) (n2 : n ≤ 12) (x1 : 1 ≤ x) (x2 : x ≤ 100) : Qok (List.replicate n x) ((n : Int) * x / 2 + 1) := by
  have hp : 1 ≤ (n : Int) * x := by
    have : (1 : Int) * 1 ≤ (n : Int) * x := Int.mul_le_mul (by omega) x1 (by omega) (by omega)
    omega
  exact ⟨rep_ok n1 n2 x1 x2, by omega, by rw [rep_sum]; omega, by rw [rep_sum]; omega⟩
theorem even_least {n k : Nat} {x : Int} (n1 : 1 ≤ n) (n2 : n ≤ 12) (x1 : 1 ≤ x) (x2 : x ≤ 100) (h : LeastIs (List.replicate n x) ((n : Int) * x / 2 + 1) k) : k = n / 2 + 1 := by
  refine (h.1 (qk_of (even_ok n1 n2 x1 x2))).unique ⟨by rw [srt_length]; simp; omega, by rw [rep_pre _ (by omega)]; exact half_ge n2 x1, fun i hi => ?_⟩
  rw [rep_pre i (by omega)]
  have := half_lt n2 x1
  have : (i : Int) * x ≤ ((n / 2 : Nat) : Int) * x := Int.mul_le_mul_of_nonneg_right (by omega) (by omega)
  omega
theorem even_spare {n k : Nat} {x : Int} (n1 : 1 ≤ n) (n2 : n ≤ 12) (x1 : 1 ≤ x) (x2 : x ≤ 100) (h : SpareIs (List.replicate n x) ((n : Int) * x / 2 + 1) k) : k = n - (n / 2 + 1) := by
  have h1 := h.1 (qk_of (even_ok n1 n2 x1 x2))
  rw [rep_sum] at h1
  have := h1.unique (l := n - (n / 2 + 1) + 1) ⟨by rw [srt_length]; simp; omega, by rw [rep_pre _ (by omega)]; exact rest_ge n2 x1, fun i hi => ?_⟩
  · omega
  rw [rep_pre i (by omega)]
  have := rest_lt n1 n2 x1
  have : (i : Int) * x ≤ ((n - (n / 2 + 1) : Nat) : Int) * x := Int.mul_le_mul_of_nonneg_right (by omega) (by omega)
  omega
/-- The slice value v was made by the call itself, at or beyond block 'base', and holds the numbers L. -/
def OwI (base : Nat) (w : World) (v : Value) (L : List Int) : Prop := w.ownsRow base 3 1 v L.length (cellsZ L) ∧ L.length ≤ 1000
theorem OwI.is {base : Nat} {w : World} {v : Value} {L : List Int} (h : OwI base w v L) : Is w.heap.size w v L := by
  obtain ⟨h1, h3⟩ := h
  rcases h1.2 with ⟨rfl, h4⟩ | ⟨g, cap, cur, rfl, h5, h6, h7, h8, h9⟩
  · obtain rfl : L = [] := List.eq_nil_of_length_eq_zero h4
    exact Is.nil _ _
  · have hg : g < w.heap.size := (Array.getElem?_eq_some_iff.1 h6).1
    refine ⟨by omega, _, cap, rfl, h7, ?_⟩
    by_cases hL : L = []
    · exact .inl hL
    · refine .inr ⟨g, 0, rfl, hg, fun j hj => ?_⟩
      rw [Nat.zero_add, World.ownsRow.cellAt (n := L.length) h1 j (by omega), cellsZ_get hj]
theorem OwI.below {base n : Nat} {w w' : World} {v : Value} {L : List Int} (h : OwI base w v L) (hb : Below n w w') (hn : w.heap.size ≤ n) : OwI base w' v L := by
  obtain ⟨h1, h3⟩ := h
  refine ⟨⟨h1.1, ?_⟩, h3⟩
  rcases h1.2 with h4 | ⟨g, cap, cur, rfl, h5, h6, h7⟩
  · exact .inl h4
  · have hg : g < w.heap.size := (Array.getElem?_eq_some_iff.1 h6).1
    exact .inr ⟨g, cap, cur, rfl, h5, (hb.block g (by omega)).trans h6, h7⟩
theorem OwI.block_le {base : Nat} {w : World} {v : Value} {L : List Int} (h : OwI base w v L) : ∀ k, v.ownBlock = some k → base ≤ k := by
  rcases h.1.2 with ⟨rfl, h4⟩ | ⟨g, cap, cur, rfl, h5, h6, h7⟩
  · intro k e; cases e
  · intro k e; cases e; exact h5
theorem OwI.shape {base : Nat} {w : World} {v : Value} {L : List Int} (h : OwI base w v L) : ∃ a c, v = .slice a L.length c := h.is.shape
theorem cellsZ_snoc (L : List Int) (x : Int) : cellsZ (L ++ [x]) = cellsZ L ++ [.int .i64 x] := by simp [cellsZ]
theorem news_int (w : World) (v : Value) (j : Nat) (u : Value) (h : [v][j]? = some u) : (w.alloc (.cells #[v] 3)).cell? ((⟨w.heap.size, 0, none⟩ : Addr).add j) = some u := by
  match j, h with
  | 0, h =>
    simp at h
    subst h
    have h := heap_new w (.cells #[v] 3)
    rw [show (⟨w.heap.size, 0, none⟩ : Addr).add 0 = ⟨w.heap.size, 0, none⟩ from rfl]
    unfold World.cell?
    rw [h]
    rfl
/-- One number more behind a list that the call made itself. -/
theorem owi_snoc {base : Nat} {w' : World} {v' : Value} {L : List Int} {x : Int} (hl : L.length + 1 ≤ 1000) (ho : w'.ownsRow base 3 1 v' (L.length + 1) (cellsZ L ++ [.int .i64 x])) : OwI base w' v' (L ++ [x]) := by
  refine ⟨?_, ?_⟩
  · rw [List.length_append, cellsZ_snoc]; exact ho
  · rw [List.length_append]; exact hl
theorem owi_nil (base : Nat) (w : World) : OwI base w (.slice none 0 0) [] := ⟨World.ownsRow_nil _ _ _ _, by simp⟩
end Go.Proofs.Ytegpniiokiejhab
