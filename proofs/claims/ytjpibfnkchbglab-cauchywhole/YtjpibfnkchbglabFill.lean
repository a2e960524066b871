/- Matrices that a call has made itself: an outer list of rows, each in a block of its own; and what matrix.fill makes of whatever function it is handed. -/
import Derived.Test.YtjpibfnkchbglabMem
namespace Go.Proofs.Ytjpibfnkchbglab
open Go.ChangeShapes Go.WideShapes Go.ChangeAt Go.RowKit Go.Shelf
/-- a row of so many columns -/
def rl (c : Nat) (r : Nat → Nat) : List Nat := (List.range c).map r
theorem rl_len (c : Nat) (r : Nat → Nat) : (rl c r).length = c := by simp [rl]
theorem rl_get {c : Nat} (r : Nat → Nat) {k : Nat} (h : k < c) : (rl c r)[k]?.getD 0 = r k := by simp [rl, h]
theorem rl_congr {c : Nat} {r s : Nat → Nat} (h : ∀ k, k < c → r k = s k) : rl c r = rl c s := by
  unfold rl
  exact List.map_congr_left fun k hk => h k (List.mem_range.1 hk)
/-- the outer list: m of n rows are there -/
def oc (ρ : Nat → Nat) (cols n m : Nat) : List Value := (List.range n).map fun j => if j < m then .slice (some ⟨ρ j, 0, none⟩) cols cols else .slice none 0 0
theorem oc_get {ρ : Nat → Nat} {cols n m j : Nat} (h : j < n) : (oc ρ cols n m)[j]? = some (if j < m then .slice (some ⟨ρ j, 0, none⟩) cols cols else .slice none 0 0) := by simp [oc, h]
theorem oc_len (ρ : Nat → Nat) (cols n m : Nat) : (oc ρ cols n m).length = n := by simp [oc]
/-- ρ, with r at place i -/
def put (ρ : Nat → Nat) (i r : Nat) : Nat → Nat := fun j => if j = i then r else ρ j
theorem oc_put {ρ : Nat → Nat} {cols n i r : Nat} (h : i < n) : (oc ρ cols n i).toArray.setIfInBounds i (.slice (some ⟨r, 0, none⟩) cols cols) = (oc (put ρ i r) cols n (i + 1)).toArray := by
  apply Array.ext_getElem?
  intro j
  rw [Array.getElem?_setIfInBounds, List.getElem?_toArray, List.getElem?_toArray, List.size_toArray, oc_len]
  by_cases hj : j < n
  · rw [oc_get hj, oc_get hj]
    by_cases e : i = j
    · subst e
      rw [if_pos rfl, if_pos h, if_pos (by omega)]
      simp [put]
    · rw [if_neg e]
      by_cases hl : j < i
      · rw [if_pos hl, if_pos (by omega)]
        simp [put, Ne.symm e]
      · rw [if_neg hl, if_neg (by omega)]
  · rw [List.getElem?_eq_none (by rw [oc_len]; omega), List.getElem?_eq_none (by rw [oc_len]; omega), if_neg (by omega)]
theorem row_put {c k v : Nat} (r : Nat → Nat) : (cellsB (rl c r)).toArray.setIfInBounds k (.int .u8 (v : Nat)) = (cellsB (rl c (put r k v))).toArray := by
  apply Array.ext_getElem?
  intro j
  rw [Array.getElem?_setIfInBounds, List.getElem?_toArray, List.getElem?_toArray, List.size_toArray]
  have l1 : ∀ s, (cellsB (rl c s)).length = c := fun s => by simp [cellsB, rl_len]
  rw [l1]
  by_cases hj : j < c
  · rw [cellsB_get (by rw [rl_len]; exact hj), cellsB_get (by rw [rl_len]; exact hj), rl_get _ hj, rl_get _ hj]
    by_cases e : k = j
    · subst e
      rw [if_pos rfl, if_pos hj]
      simp [put]
    · rw [if_neg e]
      simp [put, Ne.symm e]
  · rw [List.getElem?_eq_none (by rw [l1]; omega), List.getElem?_eq_none (by rw [l1]; omega)]
    split
    · split
      · omega
      · rfl
    · rfl
theorem info39 : (Try.prog.info? 52).map (fun i => (i.zero, i.size, i.bytes)) = some (some (.slice none 0 0), 1, 24) := by kernel_rfl
theorem und22 : Try.prog.underlying 23 = some (.slice 52) := by kernel_rfl
theorem mkO (n : Nat) (hn : n ≤ 1000) (W : World) (ρ : Nat → Nat) (cols : Nat) : (Instr.makeSlice 23 (.int .i64 (n : Int)) (.int .i64 (n : Int))).run Try.prog W = .ok (.slice (some ⟨W.heap.size, 0, none⟩) n n) (W.alloc (.cells (oc ρ cols n 0).toArray 52)) := by
  obtain ⟨i0, hi, hz0, hz1, hz2⟩ := info_parts info39
  have h := run_make (P := Try.prog) W 23 52 i0 (.slice none 0 0) und22 hi hz0 .i64 .i64 n n (by omega) (by omega) (by rw [hz2]; omega) (by omega)
  have e : madeCells (Value.slice none 0 0).cells (n * 1) = (oc ρ cols n 0).toArray := by
    apply Array.ext'
    apply List.ext_getElem
    · simp [madeCells, oc]
    · intro i h1 h2
      simp [madeCells, oc, Value.cells, Nat.mod_one]
  rw [Int.toNat_natCast, hz1, e] at h
  exact h
/-- the first m of a matrix's rows lie in memory that was made behind block g, which is the outer list -/
structure FS (w w' : World) (g n cols : Nat) (ρ : Nat → Nat) (m : Nat) (A : Nat → Nat → Nat) : Prop where
  bel : Below w.heap.size w w'
  gb : w.heap.size ≤ g
  out : w'.heap[g]? = some (.cells (oc ρ cols n m).toArray 52 (0, 0))
  row : ∀ j, j < m → g < ρ j ∧ w'.heap[ρ j]? = some (.cells (cellsB (rl cols (A j))).toArray 5 (0, 0))
  inj : ∀ j j', j < m → j' < m → ρ j = ρ j' → j = j'
theorem heap_lt {w : World} {b : Nat} {o : Obj} (h : w.heap[b]? = some o) : b < w.heap.size := (Array.getElem?_eq_some_iff.1 h).1
theorem FS.below {w w' W : World} {g n cols m : Nat} {ρ : Nat → Nat} {A : Nat → Nat → Nat} (h : FS w w' g n cols ρ m A) (hb : Below w'.heap.size w' W) : FS w W g n cols ρ m A :=
  ⟨h.bel.trans (hb.mono h.bel.size), h.gb, (hb.block g (heap_lt h.out)).trans h.out, fun j hj => ⟨(h.row j hj).1, (hb.block _ (heap_lt (h.row j hj).2)).trans (h.row j hj).2⟩, h.inj⟩
theorem FS.congr {w w' : World} {g n cols m : Nat} {ρ : Nat → Nat} {A B : Nat → Nat → Nat} (h : FS w w' g n cols ρ m A) (e : ∀ j k, j < m → k < cols → A j k = B j k) : FS w w' g n cols ρ m B :=
  ⟨h.bel, h.gb, h.out, fun j hj => ⟨(h.row j hj).1, by rw [← rl_congr (e j · hj)]; exact (h.row j hj).2⟩, h.inj⟩
/-- one block alone turns -/
theorem OnlyAt.one {g : Nat} {c : Array Value} {t : TypeId} {w : World} (h : w.heap[g]? = some (.cells c t (0, 0))) (i : Nat) (v : Value) : OnlyAt g (.cells (c.setIfInBounds i v) t (0, 0)) w (w.setCell ⟨g, i, none⟩ v) := (OnlyAt.refl h).set v
theorem zc_rl (c : Nat) : zc c = (cellsB (rl c (fun _ => 0))).toArray := by
  unfold zc rl
  congr 2
  apply List.ext_getElem
  · simp
  · intro i h1 h2; simp
/-- a row more -/
theorem FS.more {w w' : World} {g n cols m : Nat} {ρ : Nat → Nat} {A : Nat → Nat → Nat} (h : FS w w' g n cols ρ m A) (hm : m < n) :
    FS w ((w'.alloc (.cells (zc cols) 5)).setCell ⟨g, m, none⟩ (.slice (some ⟨w'.heap.size, 0, none⟩) cols cols)) g n cols (put ρ m w'.heap.size) (m + 1) (fun j => if j = m then fun _ => 0 else A j) := by
  have ha := (Below.refl w'.heap.size w').alloc (Nat.le_refl _) (.cells (zc cols) 5)
  have hg := heap_lt h.out
  have h1 : (w'.alloc (.cells (zc cols) 5)).heap[g]? = some (.cells (oc ρ cols n m).toArray 52 (0, 0)) := (ha.block g hg).trans h.out
  have hO := OnlyAt.one h1 m (.slice (some ⟨w'.heap.size, 0, none⟩) cols cols)
  rw [oc_put hm] at hO
  have hn : (w'.alloc (.cells (zc cols) 5)).heap[w'.heap.size]? = some (.cells (zc cols) 5 (0, 0)) := by show (w'.heap.push _)[w'.heap.size]? = _; simp
  refine ⟨(h.bel.alloc h.bel.size _).trans (hO.below h.gb), h.gb, hO.at_, ?_, ?_⟩
  · intro j hj
    by_cases e : j = m
    · subst e
      simp only [put, if_true]
      refine ⟨hg, ?_⟩
      rw [hO.block _ (by omega), hn, zc_rl]
    · obtain ⟨r1, r2⟩ := h.row j (by omega)
      simp only [put, if_neg e]
      refine ⟨r1, ?_⟩
      rw [hO.block _ (by omega), ha.block _ (heap_lt r2), r2]
  · intro j j' hj hj' e
    unfold put at e
    by_cases c : j = m
    · by_cases c' : j' = m
      · omega
      · rw [if_pos c, if_neg c'] at e
        have := heap_lt (h.row j' (by omega)).2
        omega
    · by_cases c' : j' = m
      · rw [if_neg c, if_pos c'] at e
        have := heap_lt (h.row j (by omega)).2
        omega
      · rw [if_neg c, if_neg c'] at e
        exact h.inj j j' (by omega) (by omega) e
/-- one byte of a row turns -/
theorem FS.set {w w' : World} {g n cols m : Nat} {ρ : Nat → Nat} {A : Nat → Nat → Nat} (h : FS w w' g n cols ρ m A) {i : Nat} (hi : i < m) (k v : Nat) :
    FS w (w'.setCell ⟨ρ i, k, none⟩ (.int .u8 (v : Nat))) g n cols ρ m (fun j => if j = i then put (A i) k v else A j) := by
  obtain ⟨r1, r2⟩ := h.row i hi
  have hO := OnlyAt.one r2 k (.int .u8 (v : Nat))
  rw [row_put] at hO
  have gb := h.gb
  refine ⟨h.bel.trans (hO.below (by omega)), h.gb, (hO.block g (by omega)).trans h.out, ?_, h.inj⟩
  intro j hj
  by_cases e : j = i
  · subst e
    exact ⟨r1, by rw [if_pos rfl]; exact hO.at_⟩
  · obtain ⟨q1, q2⟩ := h.row j hj
    refine ⟨q1, ?_⟩
    rw [if_neg e, hO.block _ (fun c => e (h.inj j i hj hi c))]
    exact q2
theorem FS.drew {w w' : World} {g n cols m : Nat} {ρ : Nat → Nat} {A : Nat → Nat → Nat} (h : FS w w' g n cols ρ m A) : FS w w'.drew g n cols ρ m A :=
  ⟨⟨h.bel.os, h.bel.tape, h.bel.output, h.bel.size, h.bel.block⟩, h.gb, h.out, h.row, h.inj⟩
theorem FS.cell {w w' : World} {g n cols m : Nat} {ρ : Nat → Nat} {A : Nat → Nat → Nat} (h : FS w w' g n cols ρ m A) {j : Nat} (hj : j < m) (hm : m ≤ n) : w'.cell? ⟨g, j, none⟩ = some (.slice (some ⟨ρ j, 0, none⟩) cols cols) := by
  have := (OnlyAt.refl h.out).read j
  rw [List.getElem?_toArray, oc_get (by omega), if_pos hj] at this
  exact this
theorem FS.void {w w' : World} {g n cols m : Nat} {ρ : Nat → Nat} {A : Nat → Nat → Nat} (h : FS w w' g n cols ρ m A) {j : Nat} (hj : m ≤ j) (hn : j < n) : w'.cell? ⟨g, j, none⟩ = some (.slice none 0 0) := by
  have := (OnlyAt.refl h.out).read j
  rw [List.getElem?_toArray, oc_get hn, if_neg (by omega)] at this
  exact this
theorem FS.ofrozen {w w' : World} {g n cols m : Nat} {ρ : Nat → Nat} {A : Nat → Nat → Nat} (h : FS w w' g n cols ρ m A) (j : Nat) : w'.frozen? ⟨g, j, none⟩ = false := (OnlyAt.refl h.out).frozen j
theorem FS.byte {w w' : World} {g n cols m : Nat} {ρ : Nat → Nat} {A : Nat → Nat → Nat} (h : FS w w' g n cols ρ m A) {j k : Nat} (hj : j < m) (hk : k < cols) : w'.cell? ⟨ρ j, k, none⟩ = some (.int .u8 (A j k : Nat)) := by
  have := (OnlyAt.refl (h.row j hj).2).read k
  rw [List.getElem?_toArray, cellsB_get (by rw [rl_len]; exact hk), rl_get _ hk] at this
  exact this
theorem FS.rfrozen {w w' : World} {g n cols m : Nat} {ρ : Nat → Nat} {A : Nat → Nat → Nat} (h : FS w w' g n cols ρ m A) {j : Nat} (hj : j < m) (k : Nat) : w'.frozen? ⟨ρ j, k, none⟩ = false := (OnlyAt.refl (h.row j hj).2).frozen k
/-- a function that is handed over: what it answers at row i and column k, in every world in which nothing of old has turned -/
def Clo (c : Nat) (lb : Array Value) (w : World) (f : Nat → Nat → Nat) (rows cols : Nat) : Prop :=
  ∀ W, Below w.heap.size w W → ∀ i k, i < rows → k < cols → f i k < 256 ∧ Calls Try.prog c (#[.int .i64 (i : Nat), .int .i64 (k : Nat)] ++ lb) W fun e W' => e = .returned (.int .u8 (f i k : Nat)) ∧ Below W.heap.size W W'
/-- what stands there when rows below i are done, and of row i what is left of k -/
def fA (f : Nat → Nat → Nat) (i k : Nat) : Nat → Nat → Nat := fun j l => if j < i then f j l else if l < k then f j l else 0
theorem fA_set {w w' : World} {g n cols m k : Nat} {ρ : Nat → Nat} {f : Nat → Nat → Nat} (h : FS w w' g n cols ρ (m + 1) (fA f m k)) (hk : k < cols) : FS w (w'.setCell ⟨ρ m, k, none⟩ (.int .u8 (f m k : Nat))) g n cols ρ (m + 1) (fA f m (k + 1)) := by
  refine (h.set (i := m) (by omega) k (f m k)).congr ?_
  intro j l hj hl
  by_cases e : j = m
  · subst e
    simp only [if_true, put, fA, Nat.lt_irrefl, if_false]
    by_cases c : l = k
    · subst c; rw [if_pos rfl, if_pos (by omega)]
    · rw [if_neg c]
      by_cases d : l < k
      · rw [if_pos d, if_pos (by omega)]
      · rw [if_neg d, if_neg (by omega)]
  · simp only [if_neg e, fA]
    rw [if_pos (by omega), if_pos (by omega)]
theorem fA_end {w w' : World} {g n cols m : Nat} {ρ : Nat → Nat} {f : Nat → Nat → Nat} (h : FS w w' g n cols ρ (m + 1) (fA f m cols)) : FS w w' g n cols ρ (m + 1) f := by
  refine h.congr ?_
  intro j l hj hl
  unfold fA
  by_cases e : j < m
  · rw [if_pos e]
  · rw [if_neg e, if_pos hl]
set_option maxRecDepth 100000 in
set_option maxHeartbeats 4000000 in
theorem fill_any (rows cols c : Nat) (lb : Array Value) (f : Nat → Nat → Nat) (w : World) (hr : rows ≤ 64) (hc : cols ≤ 64) (hcf : ∀ (args : Array Value) (W : World), (callFunc c args).run Try.prog W = .ok (.enter c args) W) (hC : Clo c lb w f rows cols) :
    Calls Try.prog 28 #[.int .i64 (rows : Nat), .int .i64 (cols : Nat), .func (.func c) #[] lb] w fun e w' => ∃ ρ, e = .returned (.slice (some ⟨w.heap.size, 0, none⟩) rows rows) ∧ FS w w' w.heap.size rows cols ρ rows f := by
  have HC := hid_of hC
  have hmo := mkO rows (by omega) w (fun _ => 0) cols
  have hmk := fun W => mk39 cols (by omega) W
  have H0 : Hid (FS w (w.alloc (.cells (oc (fun _ => 0) cols rows 0).toArray 52)) w.heap.size rows cols (fun _ => 0) 0 f) := by
    refine ⟨(Below.refl _ _).alloc (Nat.le_refl _) _, Nat.le_refl _, ?_, fun j hj => by omega, fun j j' hj => by omega⟩
    show (w.heap.push _)[w.heap.size]? = _
    simp
  clear hC
  go_enter Try.func28, Try.ntmps28
  go_wp2_with fail
  go_loopw [14] (fun i w' => ∃ (m : Nat) (ρ : Nat → Nat), m ≤ rows ∧ i = .int .i64 m ∧ Hid (FS w w' w.heap.size rows cols ρ m f)) (fun i _ => rows - (intOf i).toNat)
  case atStart => exact ⟨0, _, by omega, rfl, H0⟩
  case round =>
    obtain ⟨m, ρ, hm, rfl, HF⟩ := hrel
    by_cases hlt : m < rows
    · have h1 := (HF.out.below ((Below.refl wr.heap.size wr).alloc (Nat.le_refl _) (.cells (zc cols) 5)))
      have c1 := h1.void (Nat.le_refl _) hlt
      have c2 := h1.ofrozen m
      have h2 := HF.out.more hlt
      have c3 := h2.cell (j := m) (by omega) (by omega)
      simp only [put, if_true] at c3
      have H2 := hid_of h2
      clear h1 h2
      have H3 : Hid (FS w ((wr.alloc (.cells (zc cols) 5)).setCell ⟨w.heap.size, m, none⟩ (.slice (some ⟨wr.heap.size, 0, none⟩) cols cols)) w.heap.size rows cols (put ρ m wr.heap.size) (m + 1) (fA f m 0)) := hid_of (H2.out.congr (by
        intro j k hj hk
        unfold fA
        by_cases e : j = m
        · subst e; rw [if_pos rfl, if_neg (by omega), if_neg (by omega)]
        · rw [if_neg e, if_pos (by omega)]))
      have hρ : put ρ m wr.heap.size m = wr.heap.size := by simp [put]
      go_wp2_with fail
      clear c1 c2 c3 H2 HF
      generalize put ρ m wr.heap.size = ρ' at *
      clear hρ
      go_loopw [27] (fun i w' => ∃ k : Nat, k ≤ cols ∧ i = .int .i64 k ∧ Hid (FS w w' w.heap.size rows cols ρ' (m + 1) (fA f m k))) (fun i _ => cols - (intOf i).toNat)
      case atStart => exact ⟨0, by omega, rfl, H3⟩
      case round =>
        obtain ⟨k, hk, rfl, HF⟩ := hrel
        by_cases hkl : k < cols
        · have c1 := HF.out.cell (j := m) (by omega) (by omega)
          have c2 := HF.out.byte (j := m) (k := k) (by omega) hkl
          have c3 := HF.out.rfrozen (j := m) (by omega) k
          have hf := (HC.out _ HF.out.bel m k hlt hkl).1
          have HFd := hid_of HF.out.drew
          have e1 := HFd.out.cell (j := m) (by omega) (by omega)
          have e2 := HFd.out.byte (j := m) (k := k) (by omega) hkl
          have e3 := HFd.out.rfrozen (j := m) (by omega) k
          go_wp2_with fail
          go_region_with (refine ((HC.out _ HFd.out.bel m k hlt hkl).2).mono ?_; rintro e W' ⟨rfl, hB⟩; have HFn := hid_of (HFd.out.below hB); have d1 := HFn.out.cell (j := m) (by omega) (by omega); have d2 := HFn.out.byte (j := m) (k := k) (by omega) hkl; have d3 := HFn.out.rfrozen (j := m) (by omega) k)
          all_goals go_wp2
          all_goals go_roundw
          all_goals first
            | (case rel => exact ⟨k + 1, by omega, by go_num, by first | exact (fA_set HFn.out hkl) | exact (fA_set HFn.out hkl).drew⟩)
            | (simp [intOf]; omega)
        · have hke : k = cols := by omega
          subst hke
          have HE := hid_of (fA_end HF.out)
          go_wp2_with fail
          go_roundw
          case rel => exact ⟨m + 1, _, by omega, by go_num, HE⟩
          case measure => simp [intOf]; omega
    · have hme : m = rows := by omega
      subst hme
      go_wp2_with fail
      go_ret
      exact ⟨_, rfl, HF.out⟩
end Go.Proofs.Ytjpibfnkchbglab
