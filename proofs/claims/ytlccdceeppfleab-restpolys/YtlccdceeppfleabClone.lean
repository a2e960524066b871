/- What slices.Clone answers: the same bytes in new memory, for every list of bytes. -/
import Derived.Test.YtlccdceeppfleabValue
import Derived.Lib.LazyBuf
namespace Go.Proofs.Ytlccdceeppfleab
open Go.ChangeShapes Go.WideShapes Go.ChangeAt Go.RowKit Go.Shelf
/-- bytes as cells -/
def cellsB (L : List Nat) : List Value := L.map fun x => .int .u8 (x : Nat)
/-- The slice value v was made by the call itself, at or beyond block 'base', and holds the bytes L. -/
def Ow (base : Nat) (w : World) (v : Value) (L : List Nat) : Prop :=
  w.ownsRow base 5 1 v L.length (cellsB L) ∧ (∀ x ∈ L, x < 256) ∧ L.length ≤ 140737488351232
theorem cellsB_get {L : List Nat} {j : Nat} (h : j < L.length) : (cellsB L)[j]? = some (.int .u8 (L[j]?.getD 0 : Nat)) := by
  simp [cellsB, h]
theorem cellsB_one (L : List Nat) : ∀ u ∈ cellsB L, u.oneCell' = true := by
  intro u hu
  simp only [cellsB, List.mem_map] at hu
  obtain ⟨x, _, rfl⟩ := hu
  rfl
theorem Ow.bs {base : Nat} {w : World} {v : Value} {L : List Nat} (h : Ow base w v L) : Bs w.heap.size w v L := by
  obtain ⟨h1, h2, h3⟩ := h
  rcases h1.2 with ⟨rfl, h4⟩ | ⟨g, cap, cur, rfl, h5, h6, h7, h8, h9⟩
  · obtain rfl : L = [] := List.eq_nil_of_length_eq_zero h4
    exact Bs.nil _ _
  · have hg : g < w.heap.size := (Array.getElem?_eq_some_iff.1 h6).1
    refine ⟨h2, h3, _, cap, rfl, h7, by simp, ?_⟩
    by_cases hL : L = []
    · exact .inl hL
    · refine .inr ⟨g, 0, rfl, hg, fun j hj => ?_⟩
      rw [Nat.zero_add, World.ownsRow.cellAt (n := L.length) h1 j (by omega), cellsB_get hj]
theorem Ow.below {base n : Nat} {w w' : World} {v : Value} {L : List Nat} (h : Ow base w v L) (hb : Below n w w') (hn : w.heap.size ≤ n) : Ow base w' v L := by
  obtain ⟨h1, h2, h3⟩ := h
  refine ⟨⟨h1.1, ?_⟩, h2, h3⟩
  rcases h1.2 with h4 | ⟨g, cap, cur, rfl, h5, h6, h7⟩
  · exact .inl h4
  · have hg : g < w.heap.size := (Array.getElem?_eq_some_iff.1 h6).1
    exact .inr ⟨g, cap, cur, rfl, h5, (hb.block g (by omega)).trans h6, h7⟩
theorem Ow.mono {base b' : Nat} {w : World} {v : Value} {L : List Nat} (h : Ow base w v L) (hb : b' ≤ base) : Ow b' w v L := by
  obtain ⟨h1, h2, h3⟩ := h
  refine ⟨⟨h1.1, ?_⟩, h2, h3⟩
  rcases h1.2 with h4 | ⟨g, cap, cur, rfl, h5, h6, h7⟩
  · exact .inl h4
  · exact .inr ⟨g, cap, cur, rfl, by omega, h6, h7⟩
theorem cell_lt {w : World} {p : Addr} {u : Value} (h : w.cell? p = some u) : p.block < w.heap.size := by
  unfold World.cell? at h
  by_cases hp : p.block < w.heap.size
  · exact hp
  · rw [Array.getElem?_eq_none (by omega)] at h
    simp at h
theorem cell_new {w : World} {p : Addr} {u : Value} (o : Obj) (h : w.cell? p = some u) : (w.alloc o).cell? p = some u := by
  rw [World.cell?_alloc_lt _ _ _ (cell_lt h)]; exact h
theorem info5 : (Try.prog.info? 5).map (fun i => (i.zero, i.size, i.bytes)) = some (some (.int .u8 0), 1, 1) := by kernel_rfl
theorem und22 : Try.prog.underlying 22 = some (.slice 5) := by kernel_rfl
theorem eqnil (w : World) (a : Option Addr) (l c : Nat) : (binOp .eql 22 (.slice a l c) (.slice none 0 0)).run Try.prog w = .ok (.bool a.isNone) w := run_eql_slice_nil w 22 5 a l c und22
set_option maxHeartbeats 1000000 in
theorem clone_some (ad : Addr) (cap : Nat) (L : List Nat) (w : World) (hL : ∀ x ∈ L, x < 256) (hl : L.length ≤ 140737488351232) (hc : ∀ j u, (cellsB L)[j]? = some u → w.cell? (ad.add j) = some u) :
    Calls Try.prog 16 #[.slice (some ad) L.length cap] w fun e w' => ∃ v, e = .returned v ∧ Ow w.heap.size w' v L ∧ Below w.heap.size w w' := by
  have he : ∀ w : World, (binOp .eql 22 (.slice (some ad) L.length cap) (.slice none 0 0)).run Try.prog w = .ok (.bool false) w := fun w => eqnil w _ _ _
  obtain ⟨i0, hi, hz0, hz1, hz2⟩ := info_parts info5
  have HC : Hid (∀ j u, (cellsB L)[j]? = some u → w.cell? (ad.add j) = some u) := hc
  clear hc
  go_enter Try.func16, Try.ntmps16
  go_wp2_with (at_builtin; refine wpList_append_own _ rfl _ _ 22 rfl w.heap.size 5 i0 (.int .u8 0) 1 1 und22 hi hz0 hz1 hz2 rfl (by decide) _ 0 [] rfl (World.ownsRow_lit w #[] 0 (Nat.le_refl _) (by decide) rfl) ad L.length cap (cellsB L) rfl (by simp [cellsB]) (fun j u hj => cell_new _ (HC.out j u hj)) (cellsB_one L) (by unfold maxLen; omega) (by omega) (by simp) ?_; intro v' w1 hown hgrow hnil)
  rw [Nat.zero_add, List.nil_append] at hown
  go_ret
  exact ⟨_, rfl, ⟨hown, hL, hl⟩, ((Below.refl _ w).alloc (Nat.le_refl _) _).grown hgrow (by simp) (fun k e => by cases e; exact Nat.le_refl _)⟩
theorem clone_any (v : Value) (L : List Nat) (n : Nat) (w : World) (h : Bs n w v L) :
    Calls Try.prog 16 #[v] w fun e w' => ∃ v', e = .returned v' ∧ Ow w.heap.size w' v' L ∧ Below w.heap.size w w' := by
  obtain ⟨h1, h2, ao, cap, rfl, h4, h5, h6⟩ := h
  cases ao with
  | some ad =>
    refine clone_some ad cap L w h1 h2 ?_
    intro j u hj
    rcases h6 with rfl | ⟨b, off, h7, h8, h9⟩
    · simp [cellsB] at hj
    · injection h7 with h7
      subst h7
      have hj' : j < L.length := by have := (List.getElem?_eq_some_iff.1 hj).1; simpa [cellsB] using this
      rw [cellsB_get hj'] at hj
      rw [Addr.add_mid, h9 j hj', hj]
  | none =>
    have hL : L = [] := by
      rcases h6 with rfl | ⟨b, off, h7, h8, h9⟩
      · rfl
      · cases h7
    subst hL
    obtain rfl : cap = 0 := h5 rfl
    show Calls Try.prog 16 #[.slice none 0 0] w _
    have he : ∀ w : World, (binOp .eql 22 (.slice none 0 0) (.slice none 0 0)).run Try.prog w = .ok (.bool true) w := fun w => eqnil w _ _ _
    clear h6 h5 h4
    go_enter Try.func16, Try.ntmps16
    go_wp2_with fail
    go_ret
    exact ⟨_, rfl, ⟨World.ownsRow_nil _ _ _ _, h1, h2⟩, Below.refl _ _⟩
end Go.Proofs.Ytlccdceeppfleab
