/- What layout.Load answers. -/
import Derived.Test.YtegpniiokiejhaaLy4
import Derived.Test.YtegpniiokiejhaaIs
namespace Go.Proofs.Ytegpniiokiejhaa
open Go.ChangeShapes Go.WideShapes Go.ChangeAt Go.RowKit Go.Shelf
/-- how many of the first p pieces of stripe s are on node j -/
def c1 (N T : Int) (s : Nat) : Nat → Nat → Nat
  | 0, _ => 0
  | p + 1, j => c1 N T s p j + if ndo N T s p = (j : Int) then 1 else 0
/-- how many pieces of the first s stripes are on node j -/
def c2 (N T : Int) (P : Nat) : Nat → Nat → Nat
  | 0, _ => 0
  | s + 1, j => c2 N T P s j + c1 N T s P j
/-- numbers as cells -/
def cI (n : Nat) (f : Nat → Nat) : Array Value := ((List.range n).map fun j => Value.int .i64 ((f j : Nat) : Int)).toArray
theorem cI_get {n : Nat} {f : Nat → Nat} {j : Nat} (h : j < n) : (cI n f)[j]? = some (.int .i64 ((f j : Nat) : Int)) := by simp [cI, h]
theorem cI_set {n k v : Nat} (f : Nat → Nat) : (cI n f).setIfInBounds k (.int .i64 ((v : Nat) : Int)) = cI n (fun j => if j = k then v else f j) := by
  apply Array.ext_getElem?
  intro j
  rw [Array.getElem?_setIfInBounds]
  have hs : (cI n f).size = n := by simp [cI]
  rw [hs]
  by_cases hj : j < n
  · rw [cI_get hj, cI_get hj]
    by_cases e : k = j
    · subst e
      rw [if_pos rfl, if_pos hj, if_pos rfl]
    · rw [if_neg e, if_neg (Ne.symm e)]
  · rw [Array.getElem?_eq_none (by simp [cI]; omega), Array.getElem?_eq_none (by simp [cI]; omega)]
    split
    · split
      · omega
      · rfl
    · rfl
theorem cI_congr {n : Nat} {f g : Nat → Nat} (h : ∀ j, j < n → f j = g j) : cI n f = cI n g := by
  unfold cI
  congr 1
  exact List.map_congr_left fun j hj => by rw [h j (List.mem_range.1 hj)]
/-- since W a list of n numbers was made behind all, and nothing of old has turned -/
structure Sl (W w' : World) (n : Nat) (f : Nat → Nat) : Prop where
  bel : Below W.heap.size W w'
  at_ : w'.heap[W.heap.size]? = some (.cells (cI n f) 3)
theorem Sl.below {W w' w2 : World} {n : Nat} {f : Nat → Nat} (h : Sl W w' n f) (hb : Below w'.heap.size w' w2) : Sl W w2 n f :=
  ⟨h.bel.trans (hb.mono h.bel.size), (hb.block _ (heap_lt h.at_)).trans h.at_⟩
theorem Sl.congr {W w' : World} {n : Nat} {f g : Nat → Nat} (h : Sl W w' n f) (e : ∀ j, j < n → f j = g j) : Sl W w' n g := ⟨h.bel, by rw [← cI_congr e]; exact h.at_⟩
theorem Sl.cell {W w' : World} {n : Nat} {f : Nat → Nat} (h : Sl W w' n f) {k : Nat} (hk : k < n) : w'.cell? ⟨W.heap.size, k, none⟩ = some (.int .i64 ((f k : Nat) : Int)) := by
  have := h.at_
  simp [World.cell?, this, cI_get hk]
theorem Sl.frozen {W w' : World} {n : Nat} {f : Nat → Nat} (h : Sl W w' n f) (k : Nat) : w'.frozen? ⟨W.heap.size, k, none⟩ = false := by
  have := h.at_
  simp [World.frozen?, this]
theorem Sl.set {W w' : World} {n : Nat} {f : Nat → Nat} (h : Sl W w' n f) (k v : Nat) : Sl W (w'.setCell ⟨W.heap.size, k, none⟩ (.int .i64 ((v : Nat) : Int))) n (fun j => if j = k then v else f j) := by
  refine ⟨h.bel.setCell (by exact Nat.le_refl _) _, ?_⟩
  simp only [World.setCell, Array.getElem?_modify, ↓reduceIte, h.at_, Option.map_some]
  rw [← cI_set]
  rfl
theorem Sl.is {W w' : World} {n : Nat} {f : Nat → Nat} (h : Sl W w' n f) (hn : n ≤ 1000) : Is w'.heap.size w' (.slice (some ⟨W.heap.size, 0, none⟩) n n) ((List.range n).map fun j => ((f j : Nat) : Int)) := by
  refine ⟨by simp; omega, _, n, by simp, by simp, .inr ⟨_, 0, rfl, heap_lt h.at_, fun j hj => ?_⟩⟩
  simp only [List.length_map, List.length_range] at hj
  rw [Nat.zero_add, h.cell hj]
  simp [hj]
theorem info3 : (Try.prog.info? 3).map (fun i => (i.zero, i.size, i.bytes)) = some (some (.int .i64 0), 1, 8) := by kernel_rfl
theorem und31 : Try.prog.underlying 31 = some (.slice 3) := by kernel_rfl
theorem mk31 (n : Nat) (hn : n ≤ 1000) (W : World) : (Instr.makeSlice 31 (.int .i64 (n : Int)) (.int .i64 (n : Int))).run Try.prog W = .ok (.slice (some ⟨W.heap.size, 0, none⟩) n n) (W.alloc (.cells (cI n fun _ => 0) 3)) := by
  obtain ⟨i0, hi, hz0, hz1, hz2⟩ := info_parts info3
  have h := run_make (P := Try.prog) W 31 3 i0 (.int .i64 0) und31 hi hz0 .i64 .i64 n n (by omega) (by omega) (by rw [hz2]; omega) (by omega)
  have e : madeCells (Value.int .i64 0).cells (n * 1) = cI n fun _ => 0 := by
    apply Array.ext'
    apply List.ext_getElem
    · simp [madeCells, cI]
    · intro i h1 h2
      simp [madeCells, cI, Value.cells, Nat.mod_one]
  rw [Int.toNat_natCast, hz1, e] at h
  exact h
theorem cf38 : ∀ (args : Array Value) (W : World), (callFunc 38 args).run Try.prog W = .ok (.enter 38 args) W := fun _ _ => rfl
set_option maxHeartbeats 1000000 in
theorem load1_any (s : Int) (bs : Nat) (w : World) (hs : Bi w bs s) :
    Calls Try.prog 38 #[at0 bs] w fun e w' => e = .returned (.bool (blw s 65)) ∧ Below w.heap.size w w' := by
  unfold at0
  have k4 := hs.cell
  clear hs
  go_enter Try.func38, Try.ntmps38
  go_wp2_with fail
  refine (isBelow_any _ _ _).mono ?_
  rintro e w1 ⟨rfl, rfl⟩
  go_wp2_with fail
  go_ret
  exact ⟨rfl, Below.refl _ _⟩
/-- Load's error -/
def ldE (N D M T s : Int) : Int := lcs (lck N D M T) (blw s 65)
/-- Load's answer -/
def ldL (N D M T s : Int) : List Int := if ldE N D M T s = 0 then (List.range N.toNat).map fun j => ((c2 N T (D + M).toNat s.toNat j : Nat) : Int) else []
theorem ld_zero {N D M T s : Int} (h : ldE N D M T s = 0) : Lok N D M T ∧ 0 ≤ s ∧ s < 65 := by
  obtain ⟨h1, h2⟩ := lcs_zero h
  have a := blw_t h2
  exact ⟨lck_zero h1, a.1, a.2⟩
theorem ld_of {N D M T s : Int} (h : Lok N D M T) (h1 : 0 ≤ s) (h2 : s < 65) : ldE N D M T s = 0 := by
  unfold ldE
  rw [lck_of h, blw_i ⟨h1, h2⟩]
  rfl
theorem c1_le (N T : Int) (s p j : Nat) : c1 N T s p j ≤ p := by
  induction p with
  | zero => simp [c1]
  | succ p ih => simp only [c1]; split <;> omega
theorem c2_le (N T : Int) (P s j : Nat) : c2 N T P s j ≤ s * P := by
  induction s with
  | zero => simp [c2]
  | succ s ih => simp only [c2]; have := c1_le N T s P j; rw [Nat.succ_mul]; omega
theorem lst_pc (N T : Int) (P s p k : Nat) (hk : ndo N T s p = (k : Int)) (j : Nat) :
    (if j = k then c2 N T P s k + c1 N T s p k + 1 else c2 N T P s j + c1 N T s p j) = c2 N T P s j + c1 N T s (p + 1) j := by
  simp only [c1]
  rw [hk]
  by_cases e : j = k
  · subst e; rw [if_pos rfl, if_pos rfl]; omega
  · rw [if_neg e, if_neg (by omega)]; omega
set_option maxHeartbeats 2000000 in
theorem load_any (N D M T s : Int) (w : World) :
    Calls Try.prog 12 #[lay N D M T, .int .i64 s] w fun e w' => ∃ v, e = .returned (.tuple #[v, .int .i64 (ldE N D M T s)]) ∧ Is w'.heap.size w' v (ldL N D M T s) ∧ Below w.heap.size w w' := by
  obtain ⟨b0, b1, b2⟩ := box2 w (.cells #[.int .i64 N, .int .i64 D, .int .i64 M, .int .i64 T] 23) (.cells #[.int .i64 s] 3)
  have B0 := hid_of b0
  have B1 := hid_of (show Bx _ _ _ _ _ _ from b1)
  have B2 := hid_of (show Bi _ _ _ from b2)
  have HZ := hid_of (@ld_zero N D M T s)
  have HL : Hid (ldL N D M T s = if ldE N D M T s = 0 then (List.range N.toNat).map fun j => ((c2 N T (D + M).toNat s.toNat j : Nat) : Int) else []) := rfl
  have HE : Hid (ldE N D M T s = lcs (lck N D M T) (blw s 65)) := rfl
  generalize ldL N D M T s = u at HL ⊢
  generalize ldE N D M T s = x at HL HZ HE ⊢
  clear b0 b1 b2
  unfold lay
  go_enter Try.func12, Try.ntmps12
  go_wp2_with fail
  generalize (w.alloc (.cells #[.int .i64 N, .int .i64 D, .int .i64 M, .int .i64 T] 23)).alloc (.cells #[.int .i64 s] 3) = W at *
  refine (chk_any N D M T 38 #[at0 _] (blw s 65) _ cf38 (fun h0 W' hW => load1_any s _ W' (B2.out.below hW))).mono ?_
  rintro e w1 ⟨rfl, h1⟩
  rw [← HE.out]
  have HB := hid_of (B0.out.trans (h1.mono B0.out.size))
  have X1 := hid_of (B1.out.below h1)
  have X2 := hid_of (B2.out.below h1)
  clear h1 HE B0 B1 B2
  by_cases c : x = 0
  · obtain ⟨hL, p1, p2⟩ := HZ.out c
    obtain ⟨n1, n2, d1, d2, m1, m2, hf, t1, t2⟩ := hL
    rw [if_pos c] at HL
    have hu := HL.out
    subst hu
    clear HL HZ
    obtain ⟨n, rfl⟩ := Int.eq_ofNat_of_zero_le (show 0 ≤ N by omega)
    obtain ⟨S, rfl⟩ := Int.eq_ofNat_of_zero_le p1
    obtain ⟨P, hP⟩ : ∃ P : Nat, D + M = (P : Int) := ⟨(D + M).toNat, by omega⟩
    have HP := hid_of hP
    have hmk := mk31 n (by omega) w1
    have hPl : P ≤ 14 := by omega
    subst c
    obtain ⟨k0, k1, k2, k3⟩ := X1.out.cells
    have k4 := X2.out.cell
    have l1 : ∀ i, i < w1.heap.size → ∀ o p, (w1.alloc o).cell? ⟨i, p, none⟩ = w1.cell? ⟨i, p, none⟩ := fun i hi o p => (below_new w1 o).cell (p := ⟨i, p, none⟩) hi
    have z1 : w.heap.size < w1.heap.size := heap_lt X1.out
    have z2 : w.heap.size + 1 < w1.heap.size := heap_lt X2.out
    clear hP
    go_wp2_with fail
    have H0 : Hid (Sl w1 (w1.alloc (.cells (cI n fun _ => 0) 3)) n (c2 n T P 0)) := ⟨below_new _ _, heap_new _ _⟩
    clear hmk l1 k0 k1 k2 k3 k4
    go_loopw [20] (fun i w' => ∃ m : Nat, m ≤ S ∧ i = .int .i64 m ∧ Hid (Sl w1 w' n (c2 n T P m))) (fun i _ => S - (intOf i).toNat)
    case atStart => exact ⟨0, by omega, rfl, H0⟩
    case round =>
      obtain ⟨m, hm, rfl, HF⟩ := hrel
      by_cases hlt : m < S
      · obtain ⟨k0, k1, k2, k3⟩ := (X1.out.below HF.out.bel).cells
        have tl : decide ((m : Int) < (S : Int)) = true := decide_eq_true (by omega)
        go_wp2_with fail
        refine (pieces_any _ _ _ _ _ d1 d2 m1 m2).mono ?_
        rintro e w2 ⟨rfl, h2⟩
        have HF2 : Hid (Sl w1 w2 n (fun j => c2 n T P m j + c1 n T m 0 j)) := hid_of (HF.out.below h2)
        clear h2 HF k0 k1 k2 k3
        go_wp2_with fail
        go_loopw [25] (fun i w' => ∃ q : Nat, q ≤ P ∧ i = .int .i64 q ∧ Hid (Sl w1 w' n (fun j => c2 n T P m j + c1 n T m q j))) (fun i _ => P - (intOf i).toNat)
        case atStart => exact ⟨0, by omega, rfl, HF2⟩
        case round =>
          obtain ⟨q, hq, rfl, HF⟩ := hrel
          have hPP := HP.out
          by_cases hql : q < P
          · obtain ⟨k0, k1, k2, k3⟩ := (X1.out.below HF.out.bel).cells
            have tq : decide ((q : Int) < D + M) = true := decide_eq_true (by omega)
            have tq' : (q : Int) < D + M := by omega
            clear hPP
            go_wp2_with fail
            refine (nodeOf_ndo _ _ _ _ _ _ _ n1 n2 t1 t2 (by omega) (by omega) (by omega) (by omega)).mono ?_
            rintro e w3 ⟨rfl, h3⟩
            obtain ⟨o1, o2⟩ := ndo_bd n1 T m q
            obtain ⟨k, hk⟩ := Int.eq_ofNat_of_zero_le o1
            have HK := hid_of hk
            rw [hk]
            have HF3 := hid_of (HF.out.below h3)
            have hkn : k < n := by omega
            have b1 := c1_le n T m q k
            have b2 := c2_le n T P m k
            have b3 : c2 n T P m k ≤ 64 * 14 := Nat.le_trans b2 (Nat.mul_le_mul (by omega) hPl)
            have f1 := HF3.out.cell hkn
            have f2 := HF3.out.frozen k
            have f3 : (k : Int) < (n : Int) := by omega
            have HS := hid_of ((HF3.out.set k (c2 n T P m k + c1 n T m q k + 1)).congr (fun j _ => lst_pc n T P m q k HK.out j))
            obtain ⟨y, hy⟩ : ∃ y, c2 n T P m k + c1 n T m q k = y := ⟨_, rfl⟩
            rw [hy] at f1 HS
            have hy2 : y ≤ 1000 := by omega
            clear hk o1 o2 b1 b2 b3 k0 k1 k2 k3 h3 HF hy
            go_wp2_with fail
            go_roundw
            case rel => exact ⟨q + 1, by omega, by go_num, HS⟩
            case measure => simp [intOf]; omega
          · have tq : decide ((q : Int) < D + M) = false := decide_eq_false (by omega)
            have tq' : ¬ (q : Int) < D + M := by omega
            have hqe : q = P := by omega
            subst hqe
            clear hPP
            go_wp2_with fail
            go_roundw
            case rel => exact ⟨m + 1, by omega, by go_num, HF⟩
            case measure => simp [intOf]; omega
      · have hme : m = S := by omega
        subst hme
        have tl : decide ((m : Int) < (m : Int)) = false := decide_eq_false (by omega)
        go_wp2_with fail
        go_ret2
        refine ⟨_, rfl, ?_, HB.out.trans (HF.out.bel.mono HB.out.size)⟩
        rw [show (D + M).toNat = P by have := HP.out; omega]
        exact HF.out.is (by omega)
  · have tx : (x != 0) = true := by rw [bne_iff_ne]; exact c
    rw [if_neg c] at HL
    have hu := HL.out
    subst hu
    go_wp2_with fail
    go_ret2
    exact ⟨_, rfl, ⟨by simp, none, 0, rfl, by simp, .inl rfl⟩, HB.out⟩
end Go.Proofs.Ytegpniiokiejhaa
