/- Bytes in memory: what a slice holds, what a call has made itself, what has turned. -/
import Derived.Test.YtjpibfnkchbglabDivide
import Derived.Test.YtjpibfnkchbglabRefs
import Derived.Deep.RegionWith
import Derived.BigQuiet
import Derived.BigRegion
import Derived.Deep.QuietTactic
import Derived.Shelf.Abstract
import Derived.WalkKit
import Derived.OpenShut
namespace Go.Proofs.Ytjpibfnkchbglab
open Go.ChangeShapes Go.WideShapes Go.ChangeAt Go.RowKit Go.Shelf
/-- The slice value v holds the bytes L; n: all its memory lies below block n. -/
def Bs (n : Nat) (w : World) (v : Value) (L : List Nat) : Prop :=
  (∀ x ∈ L, x < 256) ∧ L.length ≤ 140737488351232 ∧ ∃ ao cap, v = .slice ao L.length cap ∧ L.length ≤ cap ∧ (ao = none → cap = 0) ∧
    (L = [] ∨ ∃ b off, ao = some ⟨b, off, none⟩ ∧ b < n ∧ ∀ j, j < L.length → w.cell? ⟨b, off + j, none⟩ = some (.int .u8 (L[j]?.getD 0 : Nat)))
theorem Bs.below {n : Nat} {w w' : World} {v : Value} {L : List Nat} (h : Bs n w v L) (hb : Below n w w') : Bs n w' v L := by
  obtain ⟨h1, h2, ao, cap, h3, h4, h5, h6⟩ := h
  refine ⟨h1, h2, ao, cap, h3, h4, h5, ?_⟩
  rcases h6 with h6 | ⟨b, off, h7, h8, h9⟩
  · exact .inl h6
  · exact .inr ⟨b, off, h7, h8, fun j hj => (hb.cell (p := ⟨b, off + j, none⟩) h8).trans (h9 j hj)⟩
theorem Bs.mono {n m : Nat} {w : World} {v : Value} {L : List Nat} (h : Bs n w v L) (hm : n ≤ m) : Bs m w v L := by
  obtain ⟨h1, h2, ao, cap, h3, h4, h5, h6⟩ := h
  refine ⟨h1, h2, ao, cap, h3, h4, h5, ?_⟩
  rcases h6 with h6 | ⟨b, off, h7, h8, h9⟩
  · exact .inl h6
  · exact .inr ⟨b, off, h7, by omega, h9⟩
theorem Bs.nil (n : Nat) (w : World) : Bs n w (.slice none 0 0) [] := ⟨by simp, by simp, none, 0, rfl, by simp, fun _ => rfl, .inl rfl⟩
/-- bytes as cells -/
def cellsB (L : List Nat) : List Value := L.map fun x => .int .u8 (x : Nat)
/-- The slice value v was made by the call itself, at or beyond block 'base', and holds the bytes L. -/
def Ow (base : Nat) (w : World) (v : Value) (L : List Nat) : Prop :=
  w.ownsRow base 5 1 v L.length (cellsB L) ∧ (∀ x ∈ L, x < 256) ∧ L.length ≤ 140737488351232
theorem cellsB_get {L : List Nat} {j : Nat} (h : j < L.length) : (cellsB L)[j]? = some (.int .u8 (L[j]?.getD 0 : Nat)) := by
  simp [cellsB, h]
theorem cellsB_one (L : List Nat) : ∀ u ∈ cellsB L, u.oneCell' = true := by
  intro u hu
  simp only [cellsB, List.mem_map] at hu
  obtain ⟨x, _, rfl⟩ := hu
  rfl
theorem Ow.bs {base : Nat} {w : World} {v : Value} {L : List Nat} (h : Ow base w v L) : Bs w.heap.size w v L := by
  obtain ⟨h1, h2, h3⟩ := h
  rcases h1.2 with ⟨rfl, h4⟩ | ⟨g, cap, cur, rfl, h5, h6, h7, h8, h9⟩
  · obtain rfl : L = [] := List.eq_nil_of_length_eq_zero h4
    exact Bs.nil _ _
  · have hg : g < w.heap.size := (Array.getElem?_eq_some_iff.1 h6).1
    refine ⟨h2, h3, _, cap, rfl, h7, by simp, ?_⟩
    by_cases hL : L = []
    · exact .inl hL
    · refine .inr ⟨g, 0, rfl, hg, fun j hj => ?_⟩
      rw [Nat.zero_add, World.ownsRow.cellAt (n := L.length) h1 j (by omega), cellsB_get hj]
theorem Ow.below {base n : Nat} {w w' : World} {v : Value} {L : List Nat} (h : Ow base w v L) (hb : Below n w w') (hn : w.heap.size ≤ n) : Ow base w' v L := by
  obtain ⟨h1, h2, h3⟩ := h
  refine ⟨⟨h1.1, ?_⟩, h2, h3⟩
  rcases h1.2 with h4 | ⟨g, cap, cur, rfl, h5, h6, h7⟩
  · exact .inl h4
  · have hg : g < w.heap.size := (Array.getElem?_eq_some_iff.1 h6).1
    exact .inr ⟨g, cap, cur, rfl, h5, (hb.block g (by omega)).trans h6, h7⟩
theorem Ow.mono {base b' : Nat} {w : World} {v : Value} {L : List Nat} (h : Ow base w v L) (hb : b' ≤ base) : Ow b' w v L := by
  obtain ⟨h1, h2, h3⟩ := h
  refine ⟨⟨h1.1, ?_⟩, h2, h3⟩
  rcases h1.2 with h4 | ⟨g, cap, cur, rfl, h5, h6, h7⟩
  · exact .inl h4
  · exact .inr ⟨g, cap, cur, rfl, by omega, h6, h7⟩
theorem cell_lt {w : World} {p : Addr} {u : Value} (h : w.cell? p = some u) : p.block < w.heap.size := by
  unfold World.cell? at h
  by_cases hp : p.block < w.heap.size
  · exact hp
  · rw [Array.getElem?_eq_none (by omega)] at h
    simp at h
theorem cell_new {w : World} {p : Addr} {u : Value} (o : Obj) (h : w.cell? p = some u) : (w.alloc o).cell? p = some u := by
  rw [World.cell?_alloc_lt _ _ _ (cell_lt h)]; exact h
theorem info5 : (Try.prog.info? 5).map (fun i => (i.zero, i.size, i.bytes)) = some (some (.int .u8 0), 1, 1) := by kernel_rfl
theorem und39 : Try.prog.underlying 52 = some (.slice 5) := by kernel_rfl
/-- Nothing has turned but block g, which is now o; draws may have been made. -/
structure OnlyAt (g : Nat) (o : Obj) (w w' : World) : Prop where
  os : w'.os = w.os
  tape : w'.tape = w.tape
  output : w'.output = w.output
  size : w'.heap.size = w.heap.size
  block : ∀ k, k ≠ g → w'.heap[k]? = w.heap[k]?
  at_ : w'.heap[g]? = some o
theorem OnlyAt.refl {g : Nat} {o : Obj} {w : World} (h : w.heap[g]? = some o) : OnlyAt g o w w := ⟨rfl, rfl, rfl, rfl, fun _ _ => rfl, h⟩
theorem OnlyAt.trans {g : Nat} {o o' : Obj} {a b c : World} (h : OnlyAt g o a b) (k : OnlyAt g o' b c) : OnlyAt g o' a c :=
  ⟨k.os.trans h.os, k.tape.trans h.tape, k.output.trans h.output, k.size.trans h.size, fun i hi => (k.block i hi).trans (h.block i hi), k.at_⟩
theorem OnlyAt.drew {g : Nat} {o : Obj} {a b : World} (h : OnlyAt g o a b) : OnlyAt g o a b.drew := ⟨h.os, h.tape, h.output, h.size, h.block, h.at_⟩
theorem OnlyAt.below {g B : Nat} {o : Obj} {w w' : World} (h : OnlyAt g o w w') (hB : B ≤ g) : Below B w w' :=
  ⟨h.os, h.tape, h.output, by rw [h.size]; exact Nat.le_refl _, fun k hk => h.block k (by omega)⟩
theorem OnlyAt.cell {g : Nat} {o : Obj} {w w' : World} (h : OnlyAt g o w w') {p : Addr} (hp : p.block ≠ g) : w'.cell? p = w.cell? p := World.cell?_of_block (w := w) (h.block p.block hp)
theorem OnlyAt.set {g i : Nat} {c : Array Value} {t : TypeId} {w w' : World} (h : OnlyAt g (.cells c t (0, 0)) w w') (v : Value) : OnlyAt g (.cells (c.setIfInBounds i v) t (0, 0)) w (w'.setCell ⟨g, i, none⟩ v) := by
  refine ⟨h.os, h.tape, h.output, ?_, fun k hk => ?_, ?_⟩
  · simp only [World.setCell, Array.size_modify]; exact h.size
  · rw [Below.heap_setCell _ _ _ _ hk]; exact h.block k hk
  · simp only [World.setCell, Array.getElem?_modify, ↓reduceIte, h.at_, Option.map_some]
    simp
theorem OnlyAt.read {g : Nat} {c : Array Value} {t : TypeId} {w w' : World} (h : OnlyAt g (.cells c t (0, 0)) w w') (i : Nat) : w'.cell? ⟨g, i, none⟩ = c[i]? := by
  simp [World.cell?, h.at_]
theorem OnlyAt.frozen {g : Nat} {c : Array Value} {t : TypeId} {w w' : World} (h : OnlyAt g (.cells c t (0, 0)) w w') (i : Nat) : w'.frozen? ⟨g, i, none⟩ = false := by
  simp [World.frozen?, h.at_]
/-- the first k cells from o on, turned -/
def upd (c : Array Value) (o : Nat) (f : Nat → Nat) : Nat → Array Value
  | 0 => c
  | k + 1 => (upd c o f k).setIfInBounds (o + k) (.int .u8 (f k : Nat))
theorem upd_get (c : Array Value) (o : Nat) (f : Nat → Nat) (i : Nat) : ∀ k, (upd c o f k)[i]? = if o ≤ i ∧ i < o + k ∧ i < c.size then some (.int .u8 (f (i - o) : Nat)) else c[i]?
  | 0 => by rw [if_neg (by omega)]; rfl
  | k + 1 => by
    have hs : (upd c o f k).size = c.size := by
      clear i
      induction k with
      | zero => rfl
      | succ k ih => unfold upd; rw [Array.size_setIfInBounds, ih]
    unfold upd
    rw [Array.getElem?_setIfInBounds, hs, upd_get c o f i k]
    by_cases e : o + k = i
    · subst e
      by_cases h : o + k < c.size
      · rw [if_pos rfl, if_pos h, if_pos ⟨by omega, by omega, h⟩, show o + k - o = k by omega]
      · rw [if_pos rfl, if_neg h, if_neg (by omega), Array.getElem?_eq_none (by omega)]
    · rw [if_neg e]
      by_cases h : o ≤ i ∧ i < o + k ∧ i < c.size
      · rw [if_pos h, if_pos ⟨h.1, by omega, h.2.2⟩]
      · rw [if_neg h, if_neg (by omega)]
/-- The slice value v holds the bytes L, and none of its memory is block g. -/
def BsN (g : Nat) (w : World) (v : Value) (L : List Nat) : Prop :=
  (∀ x ∈ L, x < 256) ∧ L.length ≤ 140737488351232 ∧ ∃ ao cap, v = .slice ao L.length cap ∧ L.length ≤ cap ∧ (ao = none → cap = 0) ∧
    (L = [] ∨ ∃ b off, ao = some ⟨b, off, none⟩ ∧ b ≠ g ∧ ∀ j, j < L.length → w.cell? ⟨b, off + j, none⟩ = some (.int .u8 (L[j]?.getD 0 : Nat)))
theorem Bs.ne {n g : Nat} {w : World} {v : Value} {L : List Nat} (h : Bs n w v L) (hg : n ≤ g) : BsN g w v L := by
  obtain ⟨h1, h2, ao, cap, h3, h4, h5, h6⟩ := h
  refine ⟨h1, h2, ao, cap, h3, h4, h5, ?_⟩
  rcases h6 with h6 | ⟨b, off, h7, h8, h9⟩
  · exact .inl h6
  · exact .inr ⟨b, off, h7, by omega, h9⟩
theorem Ow.ne {base g : Nat} {w : World} {v : Value} {L : List Nat} (h : Ow base w v L) (hg : g < base) : BsN g w v L := by
  have hs := h.bs
  rcases h.1.2 with ⟨rfl, h4⟩ | ⟨g', cap, cur, rfl, h5, h6, h7⟩
  · obtain rfl : L = [] := List.eq_nil_of_length_eq_zero h4
    exact ⟨by simp, by simp, none, 0, rfl, by simp, fun _ => rfl, .inl rfl⟩
  · obtain ⟨k1, k2, ao, cap', k3, k4, k5, k6⟩ := hs
    injection k3 with k3 _ k3'
    subst k3 k3'
    refine ⟨k1, k2, _, _, rfl, k4, k5, ?_⟩
    rcases k6 with k6 | ⟨b, off, k7, k8, k9⟩
    · exact .inl k6
    · injection k7 with k7
      injection k7 with k7 k7'
      subst k7 k7'
      exact .inr ⟨_, _, rfl, by omega, k9⟩
theorem setCell_self {W : World} {b o : Nat} {v : Value} (h : W.cell? ⟨b, o, none⟩ = some v) : W.setCell ⟨b, o, none⟩ v = W := by
  unfold World.cell? at h
  split at h
  · rename_i c e f hb
    simp at h
    have hlt := (Array.getElem?_eq_some_iff.1 hb).1
    unfold World.setCell
    have e1 : W.heap.modify b (fun x => match x with
      | .cells c elem frozen => .cells (if (⟨b, o, none⟩ : Addr).spot.isSome then c else c.setIfInBounds o v) elem frozen
      | o => o) = W.heap := by
      apply Array.ext_getElem?
      intro i
      rw [Array.getElem?_modify]
      by_cases hi : b = i
      · subst hi
        rw [if_pos rfl, hb]
        simp
        apply Array.ext_getElem?
        intro j
        rw [Array.getElem?_setIfInBounds]
        by_cases hj : o = j
        · subst hj
          rw [if_pos rfl, h]
          have := (Array.getElem?_eq_some_iff.1 h).1
          simp [this]
        · rw [if_neg hj]
      · rw [if_neg hi]
    exact congrArg (fun hp => { W with heap := hp }) e1
  · simp at h
theorem hid_of {p : Prop} (h : p) : Hid p := h
def zc (n : Nat) : Array Value := (cellsB (List.replicate n 0)).toArray
theorem madeCells_zc (n : Nat) : madeCells (Value.int .u8 0).cells (n * 1) = zc n := by
  apply Array.ext'
  apply List.ext_getElem
  · simp [madeCells, zc, cellsB]
  · intro i h1 h2
    simp [madeCells, zc, cellsB, Value.cells, Nat.mod_one]
theorem mk39 (n : Nat) (hn : n ≤ 1000) (W : World) : (Instr.makeSlice 52 (.int .i64 (n : Int)) (.int .i64 (n : Int))).run Try.prog W = .ok (.slice (some ⟨W.heap.size, 0, none⟩) n n) (W.alloc (.cells (zc n) 5)) := by
  obtain ⟨i0, hi, hz0, hz1, hz2⟩ := info_parts info5
  have h := run_make (P := Try.prog) W 52 5 i0 (.int .u8 0) und39 hi hz0 .i64 .i64 n n (by omega) (by omega) (by rw [hz2]; omega) (by omega)
  rw [Int.toNat_natCast, hz1, madeCells_zc] at h
  exact h
theorem ret_bool {a b : Bool} (h : a = b) : Ending.returned (.bool a) = .returned (.bool b) := by rw [h]
theorem below_drewN {B : Nat} {a : World} : ∀ (n : Nat) {w : World}, Below B a w → Below B a (w.drewN n) := by
  intro n w h
  exact ⟨h.os, h.tape, h.output, h.size, h.block⟩
theorem Bs.drewN {n : Nat} {w : World} {v : Value} {L : List Nat} (h : Bs n w v L) (m : Nat) : Bs n (w.drewN m) v L := h
theorem same_len (A B : List Nat) (h : A.length ≠ B.length) : decide (A = B) = false := decide_eq_false (fun e => h (by rw [e]))
set_option maxRecDepth 100000 in
set_option maxHeartbeats 1000000 in
theorem same_any (av bv : Value) (A B : List Nat) (n : Nat) (w : World) (hA : Bs n w av A) (hB : Bs n w bv B) :
    Calls Try.prog 43 #[av, bv] w fun e w' => e = .returned (.bool (decide (A = B))) ∧ Below w.heap.size w w' := by
  obtain ⟨a1, a2, ao, cap, rfl, _, _, a6⟩ := hA
  obtain ⟨b1, b2, bo, cbp, rfl, _, _, b6⟩ := hB
  by_cases hl : A.length = B.length
  · have hne : ((A.length : Int) != (B.length : Int)) = false := by rw [hl]; simp
    have A6 := hid_of a6
    have B6 := hid_of b6
    have A1 := hid_of a1
    have B1 := hid_of b1
    have HL := hid_of hl
    clear a6 b6 a1 b1 hl
    go_enter Try.func43, Try.ntmps43
    go_wp2_with fail
    go_loopw [5] (fun i w' => ∃ k : Nat, k ≤ A.length ∧ i = .int .i64 k ∧ Hid (A.take k = B.take k) ∧ Hid (∃ m, w' = w.drewN m)) (fun i _ => A.length - (intOf i).toNat)
    case atStart => exact ⟨0, by omega, rfl, rfl, ⟨0, rfl⟩⟩
    case round =>
      obtain ⟨k, hk, rfl, HT, HW⟩ := hrel
      obtain ⟨m, rfl⟩ := HW.out
      by_cases hlt : k < A.length
      · have hlt' : k < B.length := by have := HL.out; omega
        rcases A6.out with h | ⟨b, off, rfl, hb, hc⟩
        · rw [h] at hlt; simp at hlt
        rcases B6.out with h | ⟨b', off', rfl, hb', hc'⟩
        · rw [h] at hlt'; simp at hlt'
        have hx := hc k hlt
        have hy := hc' k hlt'
        have et : A.take (k + 1) = B.take (k + 1) ↔ A[k]?.getD 0 = B[k]?.getD 0 := by
          rw [List.take_succ_eq_append_getElem hlt, List.take_succ_eq_append_getElem hlt', HT.out, List.getElem?_eq_getElem hlt, List.getElem?_eq_getElem hlt', List.append_cancel_left_eq]
          simp
        have ET := hid_of et
        obtain ⟨x, hxe⟩ : ∃ x, A[k]?.getD 0 = x := ⟨_, rfl⟩
        obtain ⟨y, hye⟩ : ∃ y, B[k]?.getD 0 = y := ⟨_, rfl⟩
        rw [hxe] at hx
        rw [hye] at hy
        have HXE := hid_of hxe
        have HYE := hid_of hye
        clear hc hc' et hxe hye
        by_cases e : x = y
        · have hxy : ((x : Int) != (y : Int)) = false := by rw [e]; simp
          have HEq := hid_of e
          clear e
          go_wp2_with fail
          go_quiet (fail)
          go_wp2_with fail
          go_roundw
          case rel => exact ⟨k + 1, by omega, by go_num, ET.out.2 (by rw [HXE.out, HYE.out]; exact HEq.out), ⟨_, rfl⟩⟩
          case measure => simp [intOf]; omega
        · have hxy : ((x : Int) != (y : Int)) = true := by rw [bne_iff_ne]; omega
          have HNe := hid_of e
          clear e
          go_wp2_with fail
          go_quiet (fail)
          go_wp2_with fail
          go_ret
          refine ⟨ret_bool (decide_eq_false (fun c => ?_)).symm, below_drewN _ (below_drewN _ (Below.refl _ _))⟩
          have := ET.out.1 (by rw [c])
          rw [HXE.out, HYE.out] at this
          exact HNe.out this
      · have hAB : A = B := by
          have := HT.out
          rw [List.take_of_length_le (by omega), List.take_of_length_le (by have := HL.out; omega)] at this
          exact this
        have HAB := hid_of hAB
        clear hAB
        go_wp2_with fail
        go_ret
        exact ⟨ret_bool (decide_eq_true HAB.out).symm, below_drewN _ (Below.refl _ _)⟩
  · have hne : ((A.length : Int) != (B.length : Int)) = true := by rw [bne_iff_ne]; omega
    have HL := hid_of (same_len A B hl)
    clear hl a6 b6
    go_enter Try.func43, Try.ntmps43
    go_wp2_with fail
    go_ret
    exact ⟨ret_bool HL.out.symm, Below.refl _ _⟩
def IsRow (k : IntKind) (w : World) (a : Option Addr) (len cap : Nat) (zs : List Int) : Prop :=
  (a = none ∧ len = 0 ∧ cap = 0 ∧ zs = []) ∨
  ∃ x, a = some x ∧ len ≤ cap ∧ cap ≤ maxLen ∧ zs.length = cap ∧ (∀ i, i < zs.length → w.cell? (x.add i) = some (.int k (zs.getD i 0))) ∧ ∀ n ∈ zs, (Lit.int k n).wf = true
theorem isRow_bs {w : World} {a : Option Addr} {len cap : Nat} {zs : List Int} (h : IsRow .u8 w a len cap zs) (hb : len ≤ 140737488351232) : ∃ L, Bs w.heap.size w (.slice a len cap) L ∧ L.length = len := by
  rcases h with ⟨rfl, rfl, rfl, rfl⟩ | ⟨x, rfl, h1, h2, h3, h4, h5⟩
  · exact ⟨[], Bs.nil _ _, rfl⟩
  · have hl : ((zs.take len).map Int.toNat).length = len := by rw [List.length_map, List.length_take]; omega
    refine ⟨(zs.take len).map Int.toNat, ⟨?_, by omega, _, _, by rw [hl], by omega, by simp, ?_⟩, hl⟩
    · intro y hy
      rw [List.mem_map] at hy
      obtain ⟨z, hz, rfl⟩ := hy
      have := bounds_u8 (h5 z (List.mem_of_mem_take hz))
      omega
    · by_cases h0 : len = 0
      · left; rw [h0]; rfl
      · right
        obtain ⟨b, off, sp⟩ := x
        cases sp with
        | some s =>
          have h6 := h4 0 (by omega)
          simp [World.cell?, Addr.add] at h6
          split at h6 <;> simp at h6
        | none =>
          have hc : ∀ j, j < zs.length → w.cell? ⟨b, off + j, none⟩ = some (.int .u8 (zs.getD j 0)) := fun j hj => by rw [← Addr.add_mid]; exact h4 j hj
          refine ⟨b, off, rfl, cell_lt (hc 0 (by omega)), fun j hj => ?_⟩
          rw [hl] at hj
          rw [hc j (by omega)]
          have hjz : j < zs.length := by omega
          have e1 : ((zs.take len).map Int.toNat)[j]?.getD 0 = (zs.getD j 0).toNat := by
            rw [List.getElem?_map, List.getElem?_take_of_lt hj, List.getElem?_eq_getElem hjz]
            simp [List.getD, hjz]
          have e2 := bounds_u8 (h5 (zs.getD j 0) (by simp [List.getD, hjz]))
          rw [e1, Int.toNat_of_nonneg e2.1]
end Go.Proofs.Ytjpibfnkchbglab
