/- Where the lists of poly.divide lie when its loop begins, in whichever order they were made. -/
import Derived.Test.YtlccdceeppfleabDivA
namespace Go.Proofs.Ytlccdceeppfleab
open Go.ChangeShapes Go.WideShapes Go.ChangeAt Go.RowKit Go.Shelf
theorem setCell_self {W : World} {b o : Nat} {v : Value} (h : W.cell? ⟨b, o, none⟩ = some v) : W.setCell ⟨b, o, none⟩ v = W := by
  unfold World.cell? at h
  split at h
  · rename_i c e f hb
    simp at h
    have hlt := (Array.getElem?_eq_some_iff.1 hb).1
    unfold World.setCell
    have e1 : W.heap.modify b (fun x => match x with
      | .cells c elem frozen => .cells (if (⟨b, o, none⟩ : Addr).spot.isSome then c else c.setIfInBounds o v) elem frozen
      | o => o) = W.heap := by
      apply Array.ext_getElem?
      intro i
      rw [Array.getElem?_modify]
      by_cases hi : b = i
      · subst hi
        rw [if_pos rfl, hb]
        simp
        apply Array.ext_getElem?
        intro j
        rw [Array.getElem?_setIfInBounds]
        by_cases hj : o = j
        · subst hj
          rw [if_pos rfl, h]
          have := (Array.getElem?_eq_some_iff.1 h).1
          simp [this]
        · rw [if_neg hj]
      · rw [if_neg hi]
    exact congrArg (fun hp => { W with heap := hp }) e1
  · simp at h
theorem hid_of {p : Prop} (h : p) : Hid p := h
def zc (n : Nat) : Array Value := (cellsB (List.replicate n 0)).toArray
theorem madeCells_zc (n : Nat) : madeCells (Value.int .u8 0).cells (n * 1) = zc n := by
  apply Array.ext'
  apply List.ext_getElem
  · simp [madeCells, zc, cellsB]
  · intro i h1 h2
    simp [madeCells, zc, cellsB, Value.cells, Nat.mod_one]
theorem mk22 (n : Nat) (hn : n ≤ 1000) (W : World) : (Instr.makeSlice 22 (.int .i64 (n : Int)) (.int .i64 (n : Int))).run Try.prog W = .ok (.slice (some ⟨W.heap.size, 0, none⟩) n n) (W.alloc (.cells (zc n) 5)) := by
  obtain ⟨i0, hi, hz0, hz1, hz2⟩ := info_parts info5
  have h := run_make (P := Try.prog) W 22 5 i0 (.int .u8 0) und22 hi hz0 .i64 .i64 n n (by omega) (by omega) (by rw [hz2]; omega) (by omega)
  rw [Int.toNat_natCast, hz1, madeCells_zc] at h
  exact h
/-- where the lists of a division lie when it begins -/
structure DivF (w Wc : World) (byh : Value) (gq : Nat) (ar : Option Addr) (cr : Nat) (P : List Nat) : Prop where
  by_ : Wc.cell? ⟨w.heap.size, 0, none⟩ = some byh
  hq : Wc.cell? ⟨w.heap.size + 1, 0, none⟩ = some (.slice (some ⟨gq, 0, none⟩) P.length P.length)
  fq : Wc.frozen? ⟨w.heap.size + 1, 0, none⟩ = false
  hr : Wc.cell? ⟨w.heap.size + 1 + 1, 0, none⟩ = some (.slice ar P.length cr)
  fr : Wc.frozen? ⟨w.heap.size + 1 + 1, 0, none⟩ = false
  gq_ : w.heap.size + 1 + 1 < gq
  quo : Wc.heap[gq]? = some (.cells (zc P.length) 5 (0, 0))
  cap_ : P.length ≤ cr ∧ (ar = none → cr = 0)
  rest : P = [] ∨ ∃ gr cur, ar = some ⟨gr, 0, none⟩ ∧ w.heap.size + 1 + 1 < gr ∧ gr ≠ gq ∧ Wc.heap[gr]? = some (.cells cur 5 (0, 0)) ∧ ∀ j, j < P.length → cur[j]? = some (.int .u8 (P[j]?.getD 0 : Nat))
  arlt : ∀ gr, ar = some ⟨gr, 0, none⟩ → gr < Wc.heap.size
  below : Below w.heap.size w Wc
  size : w.heap.size + 1 + 1 < Wc.heap.size
theorem heap_two {w2 : World} {N g : Nat} (vq vr : Value) (h1 : g ≠ N + 1) (h2 : g ≠ N + 1 + 1) : ((w2.setCell ⟨N + 1, 0, none⟩ vq).setCell ⟨N + 1 + 1, 0, none⟩ vr).heap[g]? = w2.heap[g]? := by
  rw [Below.heap_setCell _ ⟨N + 1 + 1, 0, none⟩ _ g h2, Below.heap_setCell _ ⟨N + 1, 0, none⟩ _ g h1]
theorem size_two {w2 : World} {N : Nat} (vq vr : Value) : ((w2.setCell ⟨N + 1, 0, none⟩ vq).setCell ⟨N + 1 + 1, 0, none⟩ vr).heap.size = w2.heap.size := by
  simp [World.setCell]
theorem ow_rest {base : Nat} {w : World} {ar : Option Addr} {n cr : Nat} {P : List Nat} (h : Ow base w (.slice ar n cr) P) (hn : n = P.length) : (n ≤ cr ∧ (ar = none → cr = 0)) ∧ (∀ gr, ar = some ⟨gr, 0, none⟩ → gr < w.heap.size) ∧
    (P = [] ∨ ∃ gr cur, ar = some ⟨gr, 0, none⟩ ∧ base ≤ gr ∧ w.heap[gr]? = some (.cells cur 5 (0, 0)) ∧ ∀ j, j < P.length → cur[j]? = some (.int .u8 (P[j]?.getD 0 : Nat))) := by
  rcases h.1.2 with ⟨e, h4⟩ | ⟨g, cap, cur, e, h5, h6, h7, h8, h9, h10⟩
  · injection e with e1 e2 e3
    subst e1 e3
    exact ⟨⟨by omega, fun _ => rfl⟩, by simp, .inl (List.eq_nil_of_length_eq_zero h4)⟩
  · injection e with e1 e2 e3
    subst e1 e3
    have hg := (Array.getElem?_eq_some_iff.1 h6).1
    refine ⟨⟨by omega, by simp⟩, fun gr e => by injection e with e; injection e with e; omega, .inr ⟨g, cur, rfl, h5, h6, fun j hj => ?_⟩⟩
    have e4 : cur.toList[j]? = (cur.toList.take (P.length * 1))[j]? := by rw [List.getElem?_take_of_lt (by omega)]
    rw [← Array.getElem?_toList, e4, h10, cellsB_get hj]
theorem divF_make {w w2 : World} {byh : Value} {gq : Nat} {ar : Option Addr} {cr : Nat} {P : List Nat} {base : Nat} (c0 : w2.cell? ⟨w.heap.size, 0, none⟩ = some byh) (c1 : (w2.cell? ⟨w.heap.size + 1, 0, none⟩).isSome = true) (f1 : w2.frozen? ⟨w.heap.size + 1, 0, none⟩ = false)
    (c2 : (w2.cell? ⟨w.heap.size + 1 + 1, 0, none⟩).isSome = true) (f2 : w2.frozen? ⟨w.heap.size + 1 + 1, 0, none⟩ = false) (hg : w.heap.size + 1 + 1 < gq) (hq : w2.heap[gq]? = some (.cells (zc P.length) 5 (0, 0))) (hO : Ow base w2 (.slice ar P.length cr) P) (hb : gq < base) (hB : Below w.heap.size w w2) :
    DivF w ((w2.setCell ⟨w.heap.size + 1, 0, none⟩ (.slice (some ⟨gq, 0, none⟩) P.length P.length)).setCell ⟨w.heap.size + 1 + 1, 0, none⟩ (.slice ar P.length cr)) byh gq ar cr P := by
  obtain ⟨r1, r2, r3⟩ := ow_rest hO rfl
  obtain ⟨u2, hu2⟩ := Option.isSome_iff_exists.1 c2
  have hlt := cell_lt hu2
  refine ⟨?_, ?_, ?_, ?_, ?_, hg, ?_, r1, ?_, ?_, ?_, ?_⟩
  · rw [World.cell?_setCell_other _ _ _ _ (by intro c; injection c; omega), World.cell?_setCell_other _ _ _ _ (by intro c; injection c; omega)]; exact c0
  · rw [World.cell?_setCell_other _ _ _ _ (by intro c; injection c; omega)]; exact World.cell?_setCell_same' _ _ _ c1
  · rw [World.frozen?_setCell, World.frozen?_setCell]; exact f1
  · exact World.cell?_setCell_same' _ _ _ (by rw [World.cell?_setCell_other _ _ _ _ (by intro c; injection c; omega)]; exact c2)
  · rw [World.frozen?_setCell, World.frozen?_setCell]; exact f2
  · rw [heap_two _ _ (by omega) (by omega)]; exact hq
  · rcases r3 with h | ⟨gr, cur, e1, e2, e3, e4⟩
    · exact .inl h
    · exact .inr ⟨gr, cur, e1, by omega, by omega, by rw [heap_two _ _ (by omega) (by omega)]; exact e3, e4⟩
  · intro gr e; rw [size_two]; exact r2 gr e
  · exact (hB.setCell (p := ⟨w.heap.size + 1, 0, none⟩) (by simp) _).setCell (p := ⟨w.heap.size + 1 + 1, 0, none⟩) (by simp; omega) _
  · rw [size_two]; exact hlt
theorem divF_clone {w w2 : World} {byh : Value} {ar : Option Addr} {cr : Nat} {P : List Nat} {base : Nat} (c0 : w2.cell? ⟨w.heap.size, 0, none⟩ = some byh) (c1 : (w2.cell? ⟨w.heap.size + 1, 0, none⟩).isSome = true) (f1 : w2.frozen? ⟨w.heap.size + 1, 0, none⟩ = false)
    (c2 : (w2.cell? ⟨w.heap.size + 1 + 1, 0, none⟩).isSome = true) (f2 : w2.frozen? ⟨w.heap.size + 1 + 1, 0, none⟩ = false) (hO : Ow base w2 (.slice ar P.length cr) P) (hb : w.heap.size + 1 + 1 < base) (hB : Below w.heap.size w w2) :
    DivF w (((w2.setCell ⟨w.heap.size + 1, 0, none⟩ (.slice (some ⟨w2.heap.size, 0, none⟩) P.length P.length)).setCell ⟨w.heap.size + 1 + 1, 0, none⟩ (.slice ar P.length cr)).alloc (.cells (zc P.length) 5)) byh w2.heap.size ar cr P := by
  obtain ⟨r1, r2, r3⟩ := ow_rest hO rfl
  obtain ⟨u2, hu2⟩ := Option.isSome_iff_exists.1 c2
  have hlt := cell_lt hu2
  have hlt' : w.heap.size + 1 + 1 < w2.heap.size := hlt
  have hs := size_two (w2 := w2) (N := w.heap.size) (.slice (some ⟨w2.heap.size, 0, none⟩) P.length P.length) (.slice ar P.length cr)
  refine ⟨?_, ?_, ?_, ?_, ?_, hlt', ?_, r1, ?_, ?_, ?_, ?_⟩
  · rw [World.cell?_alloc_past _ _ _ (by rw [hs]; omega), World.cell?_setCell_other _ _ _ _ (by intro c; injection c; omega), World.cell?_setCell_other _ _ _ _ (by intro c; injection c; omega)]; exact c0
  · rw [World.cell?_alloc_past _ _ _ (by rw [hs]; omega), World.cell?_setCell_other _ _ _ _ (by intro c; injection c; omega)]; exact World.cell?_setCell_same' _ _ _ c1
  · rw [World.frozen?_alloc_past _ _ _ (by rw [hs]; omega), World.frozen?_setCell, World.frozen?_setCell]; exact f1
  · rw [World.cell?_alloc_past _ _ _ (by rw [hs]; omega)]; exact World.cell?_setCell_same' _ _ _ (by rw [World.cell?_setCell_other _ _ _ _ (by intro c; injection c; omega)]; exact c2)
  · rw [World.frozen?_alloc_past _ _ _ (by rw [hs]; omega), World.frozen?_setCell, World.frozen?_setCell]; exact f2
  · have := World.alloc_heap_new ((w2.setCell ⟨w.heap.size + 1, 0, none⟩ (.slice (some ⟨w2.heap.size, 0, none⟩) P.length P.length)).setCell ⟨w.heap.size + 1 + 1, 0, none⟩ (.slice ar P.length cr)) (.cells (zc P.length) 5)
    rw [hs] at this; exact this
  · rcases r3 with h | ⟨gr, cur, e1, e2, e3, e4⟩
    · exact .inl h
    · have hg := (Array.getElem?_eq_some_iff.1 e3).1
      exact .inr ⟨gr, cur, e1, by omega, by omega, by rw [Below.heap_alloc _ _ _ (by rw [hs]; exact hg), heap_two _ _ (by omega) (by omega)]; exact e3, e4⟩
  · intro gr e; have := r2 gr e; simp; omega
  · have hB2 := (hB.setCell (p := ⟨w.heap.size + 1, 0, none⟩) (by simp) (.slice (some ⟨w2.heap.size, 0, none⟩) P.length P.length)).setCell (p := ⟨w.heap.size + 1 + 1, 0, none⟩) (by simp; omega) (.slice ar P.length cr)
    exact hB2.alloc hB2.size _
  · simp; omega
end Go.Proofs.Ytlccdceeppfleab
