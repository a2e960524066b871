/- Bytes in memory, and strings as lists of bytes: what a slice holds, what a call has made itself. -/
import Derived.Test.YtiiickinlklelaaDoorWr
import Derived.Test.YtiiickinlklelaaDoorRd
import Derived.Laws.IdiomStrings
import Derived.Deep.AppendSrc
namespace Go.Proofs.YtiiickinlklelaaDoor
open Go.ChangeShapes Go.WideShapes Go.ChangeAt Go.RowKit Go.Shelf
/-- The slice value v holds the bytes L; n: all its memory lies below block n. -/
def Bs (n : Nat) (w : World) (v : Value) (L : List Nat) : Prop :=
  (∀ x ∈ L, x < 256) ∧ L.length ≤ 140737488351232 ∧ ∃ ao cap, v = .slice ao L.length cap ∧ L.length ≤ cap ∧ (ao = none → cap = 0) ∧
    (L = [] ∨ ∃ b off, ao = some ⟨b, off, none⟩ ∧ b < n ∧ ∀ j, j < L.length → w.cell? ⟨b, off + j, none⟩ = some (.int .u8 (L[j]?.getD 0 : Nat)))
theorem Bs.below {n : Nat} {w w' : World} {v : Value} {L : List Nat} (h : Bs n w v L) (hb : Below n w w') : Bs n w' v L := by
  obtain ⟨h1, h2, ao, cap, h3, h4, h5, h6⟩ := h
  refine ⟨h1, h2, ao, cap, h3, h4, h5, ?_⟩
  rcases h6 with h6 | ⟨b, off, h7, h8, h9⟩
  · exact .inl h6
  · exact .inr ⟨b, off, h7, h8, fun j hj => (hb.cell (p := ⟨b, off + j, none⟩) h8).trans (h9 j hj)⟩
theorem Bs.mono {n m : Nat} {w : World} {v : Value} {L : List Nat} (h : Bs n w v L) (hm : n ≤ m) : Bs m w v L := by
  obtain ⟨h1, h2, ao, cap, h3, h4, h5, h6⟩ := h
  refine ⟨h1, h2, ao, cap, h3, h4, h5, ?_⟩
  rcases h6 with h6 | ⟨b, off, h7, h8, h9⟩
  · exact .inl h6
  · exact .inr ⟨b, off, h7, by omega, h9⟩
theorem Bs.nil (n : Nat) (w : World) : Bs n w (.slice none 0 0) [] := ⟨by simp, by simp, none, 0, rfl, by simp, fun _ => rfl, .inl rfl⟩
/-- bytes as cells -/
def cellsB (L : List Nat) : List Value := L.map fun x => .int .u8 (x : Nat)
/-- The slice value v was made by the call itself, at or beyond block 'base', and holds the bytes L. -/
def Ow (base : Nat) (w : World) (v : Value) (L : List Nat) : Prop :=
  w.ownsRow base 5 1 v L.length (cellsB L) ∧ (∀ x ∈ L, x < 256) ∧ L.length ≤ 140737488351232
theorem cellsB_get {L : List Nat} {j : Nat} (h : j < L.length) : (cellsB L)[j]? = some (.int .u8 (L[j]?.getD 0 : Nat)) := by
  simp [cellsB, h]
theorem cellsB_one (L : List Nat) : ∀ u ∈ cellsB L, u.oneCell' = true := by
  intro u hu
  simp only [cellsB, List.mem_map] at hu
  obtain ⟨x, _, rfl⟩ := hu
  rfl
theorem Ow.bs {base : Nat} {w : World} {v : Value} {L : List Nat} (h : Ow base w v L) : Bs w.heap.size w v L := by
  obtain ⟨h1, h2, h3⟩ := h
  rcases h1.2 with ⟨rfl, h4⟩ | ⟨g, cap, cur, rfl, h5, h6, h7, h8, h9⟩
  · obtain rfl : L = [] := List.eq_nil_of_length_eq_zero h4
    exact Bs.nil _ _
  · have hg : g < w.heap.size := (Array.getElem?_eq_some_iff.1 h6).1
    refine ⟨h2, h3, _, cap, rfl, h7, by simp, ?_⟩
    by_cases hL : L = []
    · exact .inl hL
    · refine .inr ⟨g, 0, rfl, hg, fun j hj => ?_⟩
      rw [Nat.zero_add, World.ownsRow.cellAt (n := L.length) h1 j (by omega), cellsB_get hj]
theorem Ow.below {base n : Nat} {w w' : World} {v : Value} {L : List Nat} (h : Ow base w v L) (hb : Below n w w') (hn : w.heap.size ≤ n) : Ow base w' v L := by
  obtain ⟨h1, h2, h3⟩ := h
  refine ⟨⟨h1.1, ?_⟩, h2, h3⟩
  rcases h1.2 with h4 | ⟨g, cap, cur, rfl, h5, h6, h7⟩
  · exact .inl h4
  · have hg : g < w.heap.size := (Array.getElem?_eq_some_iff.1 h6).1
    exact .inr ⟨g, cap, cur, rfl, h5, (hb.block g (by omega)).trans h6, h7⟩
theorem Ow.mono {base b' : Nat} {w : World} {v : Value} {L : List Nat} (h : Ow base w v L) (hb : b' ≤ base) : Ow b' w v L := by
  obtain ⟨h1, h2, h3⟩ := h
  refine ⟨⟨h1.1, ?_⟩, h2, h3⟩
  rcases h1.2 with h4 | ⟨g, cap, cur, rfl, h5, h6, h7⟩
  · exact .inl h4
  · exact .inr ⟨g, cap, cur, rfl, by omega, h6, h7⟩
theorem cell_lt {w : World} {p : Addr} {u : Value} (h : w.cell? p = some u) : p.block < w.heap.size := by
  unfold World.cell? at h
  by_cases hp : p.block < w.heap.size
  · exact hp
  · rw [Array.getElem?_eq_none (by omega)] at h
    simp at h
theorem cell_new {w : World} {p : Addr} {u : Value} (o : Obj) (h : w.cell? p = some u) : (w.alloc o).cell? p = some u := by
  rw [World.cell?_alloc_lt _ _ _ (cell_lt h)]; exact h
theorem info5 : (Tryd.prog.info? 5).map (fun i => (i.zero, i.size, i.bytes)) = some (some (.int .u8 0), 1, 1) := by kernel_rfl
theorem und33 : Tryd.prog.underlying 36 = some (.slice 5) := by kernel_rfl
theorem cellsB_snoc (L : List Nat) (x : Nat) : cellsB (L ++ [x]) = cellsB L ++ [.int .u8 (x : Nat)] := by simp [cellsB]
theorem Ow.block_le {base : Nat} {w : World} {v : Value} {L : List Nat} (h : Ow base w v L) : ∀ k, v.ownBlock = some k → base ≤ k := by
  rcases h.1.2 with ⟨rfl, h4⟩ | ⟨g, cap, cur, rfl, h5, h6, h7⟩
  · intro k e; cases e
  · intro k e; cases e; exact h5
theorem news_one (w : World) (v : Value) (j : Nat) (u : Value) (h : [v][j]? = some u) : (w.alloc (.cells #[v] 5)).cell? ((⟨w.heap.size, 0, none⟩ : Addr).add j) = some u := by
  match j, h with
  | 0, h =>
    simp at h
    subst h
    exact (Boxed.new w 5 v).cell
/-- One byte more behind a list that the call made itself. -/
theorem ow_snoc {base : Nat} {w w' : World} {v v' : Value} {L : List Nat} {x : Nat} (h : Ow base w v L) (hl : L.length + 1 ≤ 140737488351232) (hx : x < 256) (ho : w'.ownsRow base 5 1 v' (L.length + 1) (cellsB L ++ [.int .u8 (x : Nat)])) : Ow base w' v' (L ++ [x]) := by
  refine ⟨?_, ?_, ?_⟩
  · rw [List.length_append, cellsB_snoc]; exact ho
  · intro y hy
    rcases List.mem_append.1 hy with hy | hy
    · exact h.2.1 y hy
    · simp at hy; subst hy; exact hx
  · rw [List.length_append]; exact hl
theorem Ow.shape {base : Nat} {w : World} {v : Value} {L : List Nat} (h : Ow base w v L) : ∃ a cap, v = .slice a L.length cap := by
  rcases h.1.2 with ⟨rfl, h4⟩ | ⟨g, cap, cur, rfl, _⟩
  · exact ⟨none, 0, by rw [h4]⟩
  · exact ⟨_, cap, rfl⟩
/-- a string's bytes, as numbers -/
def bl (s : ByteArray) : List Nat := s.data.toList.map (·.toNat)
/-- the string of some bytes -/
def mkS (L : List Nat) : ByteArray := ⟨(L.map UInt8.ofNat).toArray⟩
theorem bl_len (s : ByteArray) : (bl s).length = s.size := by simp [bl]
theorem bl_lt (s : ByteArray) : ∀ x ∈ bl s, x < 256 := by
  intro x hx
  obtain ⟨y, _, rfl⟩ := List.mem_map.1 hx
  exact y.toNat_lt
theorem bl_at (s : ByteArray) (i : Nat) (h : i < s.size) : (s[i]'h).toNat = (bl s)[i]?.getD 0 := by
  have h2 : i < s.data.toList.length := by rw [Array.length_toList]; exact h
  simp only [bl, List.getElem?_map, List.getElem?_eq_getElem h2, Option.map_some, Option.getD_some]
  rfl
theorem mkS_size (L : List Nat) : (mkS L).size = L.length := by
  show (L.map UInt8.ofNat).toArray.size = _
  simp
theorem ofNat_toNat (x : UInt8) : UInt8.ofNat x.toNat = x := by simp
theorem mkS_bl (s : ByteArray) : mkS (bl s) = s := by
  show ByteArray.mk ((s.data.toList.map (·.toNat)).map UInt8.ofNat).toArray = s
  rw [List.map_map, show (UInt8.ofNat ∘ fun x : UInt8 => x.toNat) = id from funext ofNat_toNat, List.map_id, Array.toArray_toList]
theorem bl_mkS {L : List Nat} (h : ∀ x ∈ L, x < 256) : bl (mkS L) = L := by
  show ((L.map UInt8.ofNat).toArray.toList).map (·.toNat) = L
  rw [List.toList_toArray, List.map_map]
  conv => rhs; rw [← List.map_id L]
  refine List.map_congr_left fun x hx => ?_
  show (UInt8.ofNat x).toNat = x
  have := h x hx
  simp
  omega
theorem conv_none (w : World) : (convert 36 9 (.slice none 0 0)).run Tryd.prog w = .ok (.string (mkS [])) w := by kernel_rfl
/-- a list of bytes that the call made, as a string -/
theorem conv_ow {base : Nat} {w : World} {v : Value} {L : List Nat} (h : Ow base w v L) : (convert 36 9 v).run Tryd.prog w = .ok (.string (mkS L)) w := by
  obtain ⟨h1, h2, ao, cap, rfl, h4, h5, h6⟩ := h.bs
  rcases h6 with rfl | ⟨b, off, rfl, h8, h9⟩
  · rcases h.1.2 with ⟨e, _⟩ | ⟨g, c, cur, e, _⟩
    · injection e with e1 e2 e3
      subst e1 e3
      exact conv_none w
    · injection e with e1 e2 e3
      subst e1
      exact run_convert_bytes_back w 36 9 5 ⟨g, 0, none⟩ cap [] und33 Tryd.underlying5 Tryd.underlying9 (fun j hj => by simp at hj)
  · have e := run_convert_bytes_back w 36 9 5 ⟨b, off, none⟩ cap (L.map UInt8.ofNat) und33 Tryd.underlying5 Tryd.underlying9 (fun j hj => by
      have hj' : j < L.length := by simpa using hj
      rw [Addr.add_mid, h9 j hj', List.getElem?_eq_getElem hj']
      have hlt := h1 L[j] (List.getElem_mem hj')
      simp
      omega)
    rw [List.length_map] at e
    exact e
/-- a string's bytes, laid anew -/
theorem conv_str (s : ByteArray) (w : World) : ∃ cap W, (convert 9 36 (.string s)).run Tryd.prog w = .ok (.slice (some ⟨w.heap.size, 0, none⟩) s.size cap) W ∧
    (∀ j, j < s.size → W.cell? ⟨w.heap.size, j, none⟩ = some (.int .u8 ((bl s)[j]?.getD 0 : Nat))) ∧ Below w.heap.size w W ∧ W.heap.size = w.heap.size + 1 := by
  refine ⟨_, _, run_bytes_of_string w 9 36 5 s Tryd.underlying9 und33 Tryd.underlying5, ?_, ?_, ?_⟩
  · intro j hj
    refine (World.cell?_alloc_mark w.drew _ _ _ j).trans ?_
    rw [bytesRow_at s _ j hj, ← bl_at s j hj]
    rfl
  · exact ((Below.refl _ w).drew).alloc (Nat.le_refl _) _
  · simp
end Go.Proofs.YtiiickinlklelaaDoor
