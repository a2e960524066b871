/- The statements' own beginning: it is true. -/
import Derived.Test.YtjpibfnkchbglabErr
import Derived.Test.YtjpibfnkchbglabRws2
namespace Go.Proofs.Ytjpibfnkchbglab
open Go.ChangeShapes Go.WideShapes Go.ChangeAt Go.RowKit Go.Shelf
theorem lit_row {w : World} {b : Nat} {L : List Nat} (hb : ∀ x ∈ L, x < 256) (hl : L.length ≤ 64) (h : w.heap[b]? = some (.cells (cellsB L).toArray 5 (0, 0))) : Bs w.heap.size w (.slice (some ⟨b, 0, none⟩) L.length L.length) L := by
  refine ⟨hb, by omega, _, _, rfl, Nat.le_refl _, by simp, .inr ⟨b, 0, rfl, heap_lt h, fun j hj => ?_⟩⟩
  have := (OnlyAt.refl h).read j
  rw [List.getElem?_toArray, cellsB_get hj] at this
  rw [Nat.zero_add]
  exact this
/-- two rows, as a literal lays them -/
def litW (w : World) (L0 L1 : List Nat) : World := ((w.alloc (.cells (cellsB L0).toArray 5)).alloc (.cells (cellsB L1).toArray 5)).alloc (.cells #[.slice (some ⟨w.heap.size, 0, none⟩) L0.length L0.length, .slice (some ⟨w.heap.size + 1, 0, none⟩) L1.length L1.length] 52)
theorem lit_mx (w : World) (L0 L1 : List Nat) (h0 : ∀ x ∈ L0, x < 256) (h1 : ∀ x ∈ L1, x < 256) (l0 : L0.length ≤ 64) (l1 : L1.length ≤ 64) : Mx (litW w L0 L1).heap.size (litW w L0 L1) (.slice (some ⟨w.heap.size + 2, 0, none⟩) 2 2) [L0, L1] ∧ Below w.heap.size w (litW w L0 L1) := by
  have e0 : (litW w L0 L1).heap[w.heap.size]? = some (.cells (cellsB L0).toArray 5 (0, 0)) := by
    show (((w.heap.push _).push _).push _)[w.heap.size]? = _
    rw [Array.getElem?_push_lt (by simp; omega), Array.getElem_push_lt (by simp), Array.getElem_push_eq]
  have e1 : (litW w L0 L1).heap[w.heap.size + 1]? = some (.cells (cellsB L1).toArray 5 (0, 0)) := by
    show (((w.heap.push _).push _).push _)[w.heap.size + 1]? = _
    rw [Array.getElem?_push_lt (by simp)]
    congr 1
    rw [Array.getElem_push, dif_neg (by simp)]
  have e2 : (litW w L0 L1).heap[w.heap.size + 2]? = some (.cells #[.slice (some ⟨w.heap.size, 0, none⟩) L0.length L0.length, .slice (some ⟨w.heap.size + 1, 0, none⟩) L1.length L1.length] 52 (0, 0)) := by
    show (((w.heap.push _).push _).push _)[w.heap.size + 2]? = _
    have : w.heap.size + 2 = ((w.heap.push (.cells (cellsB L0).toArray 5)).push (.cells (cellsB L1).toArray 5)).size := by simp
    rw [this, Array.getElem?_push_size]
  refine ⟨⟨by simp, _, _, rfl, by simp, .inr ⟨w.heap.size + 2, 0, rfl, heap_lt e2, fun j hj => ?_⟩⟩, ?_⟩
  · have hr := (OnlyAt.refl e2).read j
    rw [Nat.zero_add]
    match j, hj with
    | 0, _ => exact ⟨_, hr, lit_row h0 l0 e0⟩
    | 1, _ => exact ⟨_, hr, lit_row h1 l1 e1⟩
  · exact (((Below.refl _ w).alloc (Nat.le_refl _) _).alloc (by simp) _).alloc (by simp; omega) _
theorem lit_is (w : World) (x y : Int) : Is (w.alloc (.cells #[.int .i64 x, .int .i64 y] 3)).heap.size (w.alloc (.cells #[.int .i64 x, .int .i64 y] 3)) (.slice (some ⟨w.heap.size, 0, none⟩) 2 2) [x, y] ∧ Below w.heap.size w (w.alloc (.cells #[.int .i64 x, .int .i64 y] 3)) := by
  refine ⟨⟨by simp, _, _, rfl, by simp, .inr ⟨w.heap.size, 0, rfl, by simp, fun j hj => ?_⟩⟩, (Below.refl _ w).alloc (Nat.le_refl _) _⟩
  match j, hj with
  | 0, _ => simp [go_sem]
  | 1, _ => simp [go_sem]
theorem rect22 (a b c d : Nat) : Rect [[a, b], [c, d]] 2 2 := ⟨rfl, fun j hj => by match j, hj with | 0, _ => rfl | 1, _ => rfl, by decide, by decide, by decide, by decide⟩
theorem rect23 (a b c d e f : Nat) : Rect [[a, b, c], [d, e, f]] 2 3 := ⟨rfl, fun j hj => by match j, hj with | 0, _ => rfl | 1, _ => rfl, by decide, by decide, by decide, by decide⟩
set_option maxRecDepth 100000 in
theorem v1 : tab 2 2 (iv [[1, 2], [3, 4]] 2) = [[2, 1], [143, 142]] := by decide +kernel
set_option maxRecDepth 100000 in
theorem v2 : ¬ ivr [[1, 2], [3, 4]] 2 < 2 := by decide +kernel
set_option maxRecDepth 100000 in
theorem v3 : ivr [[1, 2], [2, 4]] 2 < 2 := by decide +kernel
set_option maxRecDepth 100000 in
theorem v4 : (red 2 (ent [[1, 2, 3], [2, 4, 6]]) 3).1 = 1 := by decide +kernel
set_option maxRecDepth 100000 in
theorem v5 : tab 2 2 (pf [[2, 1], [143, 142]] [[1, 2], [3, 4]] 2) = [[1, 0], [0, 1]] := by decide +kernel
theorem v6 : tab 2 2 uf = [[1, 0], [0, 1]] := by decide +kernel
theorem v7 : tab 2 3 (cf 2) = [[142, 244, 71], [244, 142, 167]] := by decide +kernel
theorem v8 : tab 2 2 (rwf [[1, 2], [3, 4]] [1, 0]) = [[3, 4], [1, 2]] := by decide +kernel
theorem unit_mx (n : Nat) (w : World) (h1 : 1 ≤ n) (h2 : n ≤ 16) : Calls Try.prog 31 #[.int .i64 (n : Nat)] w fun e w' => ∃ v, e = .returned (.tuple #[v, .int .i64 0]) ∧ Mx w'.heap.size w' v (tab n n uf) ∧ Below w.heap.size w w' := by
  refine (unit_any n w h1 h2).mono ?_
  rintro e w' ⟨ρ, rfl, hF⟩
  exact ⟨_, rfl, hF.mx (by omega) (by omega) (fun i k _ _ => by unfold uf; split <;> decide), hF.bel⟩
theorem invEnd_some {A : List (List Nat)} {n : Nat} (h : ¬ ivr A n < n) {e : Ending} {w' : World} (hE : InvEnd A n e w') : ∃ v, e = .returned (.tuple #[v, .int .i64 0]) ∧ Mx w'.heap.size w' v (tab n n (iv A n)) := by unfold InvEnd at hE; rw [if_neg h] at hE; exact hE
theorem invEnd_none {A : List (List Nat)} {n : Nat} (h : ivr A n < n) {e : Ending} {w' : World} (hE : InvEnd A n e w') : e = .returned (.tuple #[.slice none 0 0, .int .i64 5]) := by unfold InvEnd at hE; rw [if_pos h] at hE; exact hE
set_option maxRecDepth 100000 in
set_option maxHeartbeats 16000000 in
theorem begun_any (w : World) : Calls Try.prog 10 #[] w fun e w' => e = .returned (.bool true) ∧ Below w.heap.size w w' := by
  have BB := hid_of (Below.refl w.heap.size w)
  go_enter Try.func10, Try.ntmps10
  go_wp2_with fail
  have hLit := lit_mx w [1, 2] [3, 4] (by decide) (by decide) (by decide) (by decide)
  have hBl := hLit.2
  have BB := hid_of (BB.out.trans (hBl.mono BB.out.size))
  have HA := hid_of hLit.1
  clear hLit hBl
  refine (inverse_ok _ [[1, 2], [3, 4]] 2 _ HA.out (rect22 1 2 3 4)).mono ?_
  rintro e w1 ⟨hE, hB⟩
  obtain ⟨vi, rfl, hI⟩ := invEnd_some v2 hE
  rw [v1] at hI
  have HA := hid_of ((HA.out.below hB).mono hB.size)
  have BB := hid_of (BB.out.trans (hB.mono BB.out.size))
  have HI := hid_of hI
  clear hB hI
  go_wp2_with fail
  refine (mmul_ok _ _ [[2, 1], [143, 142]] [[1, 2], [3, 4]] 2 2 2 _ HI.out HA.out (rect22 _ _ _ _) (rect22 _ _ _ _) HI.out.bytes).mono ?_
  rintro e w2 ⟨vp, rfl, hP, hB⟩
  rw [v5] at hP
  have HA := hid_of ((HA.out.below hB).mono hB.size)
  have HI := hid_of ((HI.out.below hB).mono hB.size)
  have BB := hid_of (BB.out.trans (hB.mono BB.out.size))
  have HP := hid_of hP
  clear hB hP
  go_wp2_with fail
  refine (unit_mx 2 _ (by decide) (by decide)).mono ?_
  rintro e w3 ⟨vu, rfl, hU, hB⟩
  rw [v6] at hU
  have HA := hid_of ((HA.out.below hB).mono hB.size)
  have HI := hid_of ((HI.out.below hB).mono hB.size)
  have HP := hid_of ((HP.out.below hB).mono hB.size)
  have BB := hid_of (BB.out.trans (hB.mono BB.out.size))
  have HU := hid_of hU
  clear hB hU
  go_wp2_with fail
  have hLit := lit_mx w3 [1, 2, 3] [2, 4, 6] (by decide) (by decide) (by decide) (by decide)
  have hBl := hLit.2
  have HA := hid_of ((HA.out.below hBl).mono hBl.size)
  have HI := hid_of ((HI.out.below hBl).mono hBl.size)
  have HP := hid_of ((HP.out.below hBl).mono hBl.size)
  have HU := hid_of ((HU.out.below hBl).mono hBl.size)
  have BB := hid_of (BB.out.trans (hBl.mono BB.out.size))
  have HR := hid_of hLit.1
  clear hLit hBl
  refine (rank_ok _ [[1, 2, 3], [2, 4, 6]] 2 3 _ HR.out (rect23 _ _ _ _ _ _)).mono ?_
  rintro e w4 ⟨rfl, hB⟩
  rw [v4]
  have HA := hid_of ((HA.out.below hB).mono hB.size)
  have HI := hid_of ((HI.out.below hB).mono hB.size)
  have HP := hid_of ((HP.out.below hB).mono hB.size)
  have HU := hid_of ((HU.out.below hB).mono hB.size)
  have HR := hid_of ((HR.out.below hB).mono hB.size)
  have BB := hid_of (BB.out.trans (hB.mono BB.out.size))
  clear hB
  go_wp2_with fail
  have hLit := lit_mx w4 [1, 2] [2, 4] (by decide) (by decide) (by decide) (by decide)
  have hBl := hLit.2
  have HA := hid_of ((HA.out.below hBl).mono hBl.size)
  have HI := hid_of ((HI.out.below hBl).mono hBl.size)
  have HP := hid_of ((HP.out.below hBl).mono hBl.size)
  have HU := hid_of ((HU.out.below hBl).mono hBl.size)
  have BB := hid_of (BB.out.trans (hBl.mono BB.out.size))
  have HS := hid_of hLit.1
  clear hLit hBl
  refine (inverse_ok _ [[1, 2], [2, 4]] 2 _ HS.out (rect22 _ _ _ _)).mono ?_
  rintro e w5 ⟨hE, hB⟩
  obtain rfl := invEnd_none v3 hE
  have HA := hid_of ((HA.out.below hB).mono hB.size)
  have HI := hid_of ((HI.out.below hB).mono hB.size)
  have HP := hid_of ((HP.out.below hB).mono hB.size)
  have HU := hid_of ((HU.out.below hB).mono hB.size)
  have HS := hid_of ((HS.out.below hB).mono hB.size)
  have BB := hid_of (BB.out.trans (hB.mono BB.out.size))
  clear hB
  go_wp2_with fail
  refine (cauchy_ok 2 3 _ (by decide) (by decide) (by decide) (by decide)).mono ?_
  rintro e w6 ⟨vc, rfl, hC, hB⟩
  rw [v7] at hC
  have HA := hid_of ((HA.out.below hB).mono hB.size)
  have HI := hid_of ((HI.out.below hB).mono hB.size)
  have HP := hid_of ((HP.out.below hB).mono hB.size)
  have HU := hid_of ((HU.out.below hB).mono hB.size)
  have BB := hid_of (BB.out.trans (hB.mono BB.out.size))
  have HC := hid_of hC
  clear hB hC
  go_wp2_with fail
  have hLit := lit_is w6 1 0
  have hBl := hLit.2
  have HA := hid_of ((HA.out.below hBl).mono hBl.size)
  have HI := hid_of ((HI.out.below hBl).mono hBl.size)
  have HP := hid_of ((HP.out.below hBl).mono hBl.size)
  have HU := hid_of ((HU.out.below hBl).mono hBl.size)
  have HC := hid_of ((HC.out.below hBl).mono hBl.size)
  have BB := hid_of (BB.out.trans (hBl.mono BB.out.size))
  have HW := hid_of hLit.1
  clear hLit hBl
  refine (rows_ok _ _ [[1, 2], [3, 4]] [1, 0] 2 2 2 _ HA.out HW.out (rect22 _ _ _ _) rfl (by decide) (by decide) (by decide)).mono ?_
  rintro e w7 ⟨vr, rfl, hR, hB⟩
  rw [v8] at hR
  have HA := hid_of ((HA.out.below hB).mono hB.size)
  have HI := hid_of ((HI.out.below hB).mono hB.size)
  have HP := hid_of ((HP.out.below hB).mono hB.size)
  have HU := hid_of ((HU.out.below hB).mono hB.size)
  have HC := hid_of ((HC.out.below hB).mono hB.size)
  have BB := hid_of (BB.out.trans (hB.mono BB.out.size))
  have HQ := hid_of hR
  clear hB hR
  obtain ⟨ac, cc, hsh⟩ := HC.out.shape
  subst hsh
  obtain ⟨b1, o1, r1, k1, rfl, hx, hx2⟩ := HC.out.at (j := 0) (by decide)
  obtain ⟨b2, o2, rfl, hy⟩ := hx2.at (j := 0) (by decide)
  have C0 := hid_of hx
  have C1 := hid_of hy
  clear hx hx2 hy
  go_wp2_with fail
  refine (sameM_any _ _ [[1, 0], [0, 1]] [[1, 0], [0, 1]] _ _ HP.out HU.out (Nat.le_refl _)).mono ?_
  rintro e w8 ⟨rfl, hB⟩
  rw [decide_eq_true rfl]
  have HA := hid_of ((HA.out.below hB).mono hB.size)
  have HI := hid_of ((HI.out.below hB).mono hB.size)
  have HP := hid_of ((HP.out.below hB).mono hB.size)
  have HU := hid_of ((HU.out.below hB).mono hB.size)
  have HC := hid_of ((HC.out.below hB).mono hB.size)
  have HQ := hid_of ((HQ.out.below hB).mono hB.size)
  have C0 := hid_of ((hB.cell (p := ⟨b1, o1 + 0, none⟩) (cell_lt C0.out)).trans C0.out)
  have C1 := hid_of ((hB.cell (p := ⟨b2, o2 + 0, none⟩) (cell_lt C1.out)).trans C1.out)
  have BB := hid_of (BB.out.trans (hB.mono BB.out.size))
  clear hB
  go_wp2_with fail
  have hLit := lit_mx w8 [1, 0] [0, 1] (by decide) (by decide) (by decide) (by decide)
  have hBl := hLit.2
  have HA := hid_of ((HA.out.below hBl).mono hBl.size)
  have HI := hid_of ((HI.out.below hBl).mono hBl.size)
  have HP := hid_of ((HP.out.below hBl).mono hBl.size)
  have HU := hid_of ((HU.out.below hBl).mono hBl.size)
  have HC := hid_of ((HC.out.below hBl).mono hBl.size)
  have HQ := hid_of ((HQ.out.below hBl).mono hBl.size)
  have C0 := hid_of ((hBl.cell (p := ⟨b1, o1 + 0, none⟩) (cell_lt C0.out)).trans C0.out)
  have C1 := hid_of ((hBl.cell (p := ⟨b2, o2 + 0, none⟩) (cell_lt C1.out)).trans C1.out)
  have BB := hid_of (BB.out.trans (hBl.mono BB.out.size))
  have HV := hid_of hLit.1
  clear hLit hBl
  refine (sameM_any _ _ [[1, 0], [0, 1]] [[1, 0], [0, 1]] _ _ HU.out HV.out (Nat.le_refl _)).mono ?_
  rintro e w9 ⟨rfl, hB⟩
  rw [decide_eq_true rfl]
  have HA := hid_of ((HA.out.below hB).mono hB.size)
  have HI := hid_of ((HI.out.below hB).mono hB.size)
  have HP := hid_of ((HP.out.below hB).mono hB.size)
  have HU := hid_of ((HU.out.below hB).mono hB.size)
  have HC := hid_of ((HC.out.below hB).mono hB.size)
  have HQ := hid_of ((HQ.out.below hB).mono hB.size)
  have HV := hid_of ((HV.out.below hB).mono hB.size)
  have C0 := hid_of ((hB.cell (p := ⟨b1, o1 + 0, none⟩) (cell_lt C0.out)).trans C0.out)
  have C1 := hid_of ((hB.cell (p := ⟨b2, o2 + 0, none⟩) (cell_lt C1.out)).trans C1.out)
  have BB := hid_of (BB.out.trans (hB.mono BB.out.size))
  clear hB
  have y0 := C0.out
  have y1 := C1.out
  rw [Nat.add_zero] at y0 y1
  go_wp2_with fail
  clear y0 y1
  have hLit := lit_mx w9 [3, 4] [1, 2] (by decide) (by decide) (by decide) (by decide)
  have hBl := hLit.2
  have HA := hid_of ((HA.out.below hBl).mono hBl.size)
  have HI := hid_of ((HI.out.below hBl).mono hBl.size)
  have HP := hid_of ((HP.out.below hBl).mono hBl.size)
  have HU := hid_of ((HU.out.below hBl).mono hBl.size)
  have HC := hid_of ((HC.out.below hBl).mono hBl.size)
  have HQ := hid_of ((HQ.out.below hBl).mono hBl.size)
  have C0 := hid_of ((hBl.cell (p := ⟨b1, o1 + 0, none⟩) (cell_lt C0.out)).trans C0.out)
  have C1 := hid_of ((hBl.cell (p := ⟨b2, o2 + 0, none⟩) (cell_lt C1.out)).trans C1.out)
  have BB := hid_of (BB.out.trans (hBl.mono BB.out.size))
  have HX := hid_of hLit.1
  clear hLit hBl
  refine (sameM_any _ _ [[3, 4], [1, 2]] [[3, 4], [1, 2]] _ _ HQ.out HX.out (Nat.le_refl _)).mono ?_
  rintro e w10 ⟨rfl, hB⟩
  rw [decide_eq_true rfl]
  have HA := hid_of ((HA.out.below hB).mono hB.size)
  have HI := hid_of ((HI.out.below hB).mono hB.size)
  have HP := hid_of ((HP.out.below hB).mono hB.size)
  have HU := hid_of ((HU.out.below hB).mono hB.size)
  have HC := hid_of ((HC.out.below hB).mono hB.size)
  have HQ := hid_of ((HQ.out.below hB).mono hB.size)
  have HX := hid_of ((HX.out.below hB).mono hB.size)
  have C0 := hid_of ((hB.cell (p := ⟨b1, o1 + 0, none⟩) (cell_lt C0.out)).trans C0.out)
  have C1 := hid_of ((hB.cell (p := ⟨b2, o2 + 0, none⟩) (cell_lt C1.out)).trans C1.out)
  have BB := hid_of (BB.out.trans (hB.mono BB.out.size))
  clear hB
  go_wp2_with fail
  refine (check_any _ [] 0 _ (Mx.nil _ _)).mono ?_
  rintro e wz ⟨rfl, hw⟩
  subst hw
  rw [show chk [] = 1 from rfl]
  go_wp2_with fail
  go_ret
  exact ⟨rfl, BB.out⟩
end Go.Proofs.Ytjpibfnkchbglab
