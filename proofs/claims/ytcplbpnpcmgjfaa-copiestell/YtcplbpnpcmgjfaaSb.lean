/- Lists of stamps; Max. -/
import Derived.Test.YtcplbpnpcmgjfaaSa
namespace Go.Proofs.Ytcplbpnpcmgjfaa
open Go.ChangeShapes Go.WideShapes Go.ChangeAt Go.RowKit Go.Shelf
/-- The slice value v holds the stamps L; n: all its memory lies below block n. -/
def Ss (n : Nat) (w : World) (v : Value) (L : List St) : Prop :=
  L.length ≤ 8796093021952 ∧ ∃ ao cap, v = .slice ao L.length cap ∧ L.length ≤ cap ∧
    (L = [] ∨ ∃ b off, ao = some ⟨b, off, none⟩ ∧ b < n ∧ ∀ j, j < L.length → w.cell? ⟨b, off + j * 2, none⟩ = some (.int .i64 (L[j]?.getD (0, 0)).1) ∧ w.cell? ⟨b, off + j * 2 + 1, none⟩ = some (.int .i64 (L[j]?.getD (0, 0)).2))
theorem Ss.below {n : Nat} {w w' : World} {v : Value} {L : List St} (h : Ss n w v L) (hb : Below n w w') : Ss n w' v L := by
  obtain ⟨h2, ao, cap, h3, h4, h6⟩ := h
  refine ⟨h2, ao, cap, h3, h4, ?_⟩
  rcases h6 with h6 | ⟨b, off, h7, h8, h9⟩
  · exact .inl h6
  · exact .inr ⟨b, off, h7, h8, fun j hj => ⟨(hb.cell (p := ⟨b, off + j * 2, none⟩) h8).trans (h9 j hj).1, (hb.cell (p := ⟨b, off + j * 2 + 1, none⟩) h8).trans (h9 j hj).2⟩⟩
theorem Ss.mono {n m : Nat} {w : World} {v : Value} {L : List St} (h : Ss n w v L) (hm : n ≤ m) : Ss m w v L := by
  obtain ⟨h2, ao, cap, h3, h4, h6⟩ := h
  refine ⟨h2, ao, cap, h3, h4, ?_⟩
  rcases h6 with h6 | ⟨b, off, h7, h8, h9⟩
  · exact .inl h6
  · exact .inr ⟨b, off, h7, by omega, h9⟩
theorem Ss.shape {n : Nat} {w : World} {v : Value} {L : List St} (h : Ss n w v L) : ∃ a c, v = .slice a L.length c := by
  obtain ⟨_, a, c, h, _⟩ := h
  exact ⟨a, c, h⟩
theorem Ss.at {n l c : Nat} {w : World} {a : Option Addr} {L : List St} (h : Ss n w (.slice a l c) L) {j : Nat} (hj : j < L.length) : ∃ b off, a = some ⟨b, off, none⟩ ∧ w.cell? ⟨b, off + j * 2, none⟩ = some (.int .i64 (L[j]?.getD (0, 0)).1) ∧ w.cell? ⟨b, off + j * 2 + 1, none⟩ = some (.int .i64 (L[j]?.getD (0, 0)).2) := by
  obtain ⟨_, a', c', h, _, h6⟩ := h
  injection h with h _ _
  subst h
  rcases h6 with h | ⟨b, off, e, _, hc⟩
  · rw [h] at hj; simp at hj
  · exact ⟨b, off, e, hc j hj⟩
theorem Ss.nil (n : Nat) (w : World) : Ss n w (.slice none 0 0) [] := ⟨by simp, none, 0, rfl, by simp, .inl rfl⟩
/-- the greatest of stamps, from g on -/
def smx (g : St) (L : List St) : St := L.foldl (fun g s => if slt g s = true then s else g) g
/-- what is wrong with stamps -/
def sbad (L : List St) : Bool := L.any fun s => decide (sck s ≠ 0)
/-- Max's error -/
def mxE (L : List St) : Int := if 64 < L.length then 2 else if sbad L = true then 3 else 0
/-- Max's answer -/
def mxV (L : List St) : St := if mxE L = 0 then smx (0, 0) L else (0, 0)
theorem smx_take {L : List St} {k : Nat} {g : St} (hk : k < L.length) : smx g (L.take (k + 1)) = if slt (smx g (L.take k)) (L[k]?.getD (0, 0)) = true then L[k]?.getD (0, 0) else smx g (L.take k) := by
  unfold smx
  rw [List.take_succ_eq_append_getElem hk, List.foldl_append, List.getElem?_eq_getElem hk]
  rfl
theorem sbad_take {L : List St} {k : Nat} (hk : k < L.length) : sbad (L.take (k + 1)) = (sbad (L.take k) || decide (sck (L[k]?.getD (0, 0)) ≠ 0)) := by
  unfold sbad
  rw [List.take_succ_eq_append_getElem hk, List.any_append, List.getElem?_eq_getElem hk]
  simp
theorem sbad_of_take {L : List St} {k : Nat} (h : sbad (L.take k) = true) : sbad L = true := by
  unfold sbad at h ⊢
  rw [List.any_eq_true] at h ⊢
  obtain ⟨x, hx, hb⟩ := h
  exact ⟨x, List.mem_of_mem_take hx, hb⟩
theorem sck_or (p : St) : sck p = 0 ∨ sck p = 3 := by
  unfold sck
  split
  · exact .inr rfl
  · exact .inl rfl
/-- block b is a box that holds a stamp -/
def Bs (w : World) (b : Nat) (p : St) : Prop := w.heap[b]? = some (.cells #[.int .i64 p.1, .int .i64 p.2] 23)
theorem Bs.below {w w' : World} {b n : Nat} {p : St} (h : Bs w b p) (hb : Below n w w') (hn : b < n) : Bs w' b p := (hb.block b hn).trans h
theorem Bs.cells {w : World} {b : Nat} {p : St} (h : Bs w b p) : w.cell? ⟨b, 0, none⟩ = some (.int .i64 p.1) ∧ w.cell? ⟨b, 1, none⟩ = some (.int .i64 p.2) := by
  unfold Bs at h
  simp [World.cell?, h]
theorem Bs.lt {w : World} {b : Nat} {p : St} (h : Bs w b p) : b < w.heap.size := heap_lt h
theorem Bs.put {w : World} {b : Nat} {p q : St} (h : Bs w b p) : Bs ((w.setCell ⟨b, 0, none⟩ (.int .i64 q.1)).setCell ⟨b, 1, none⟩ (.int .i64 q.2)) b q := by
  unfold Bs at h ⊢
  simp [World.setCell, Array.getElem?_modify, h]
theorem Bs.st {w : World} {b : Nat} {p : St} (h : Bs w b p) (u : Value) : w.frozen? ⟨b, 0, none⟩ = false ∧ (w.setCell ⟨b, 0, none⟩ u).cell? ⟨b, 1, none⟩ = some (.int .i64 p.2) ∧ (w.setCell ⟨b, 0, none⟩ u).frozen? ⟨b, 1, none⟩ = false := by
  unfold Bs at h
  simp [World.frozen?, World.cell?, World.setCell, Array.getElem?_modify, h]
theorem Bs.other {w : World} {b c : Nat} {p : St} (h : Bs w b p) (hn : b ≠ c) (o o' : Nat) (u u' : Value) : Bs ((w.setCell ⟨c, o, none⟩ u).setCell ⟨c, o', none⟩ u') b p := by
  unfold Bs at h ⊢
  rw [Below.heap_setCell _ _ _ _ hn, Below.heap_setCell _ _ _ _ hn]
  exact h
theorem below_put {B : Nat} {a w : World} (h : Below B a w) {b : Nat} (hb : B ≤ b) (o o' : Nat) (u u' : Value) : Below B a ((w.setCell ⟨b, o, none⟩ u).setCell ⟨b, o', none⟩ u') := (h.setCell (p := ⟨b, o, none⟩) hb u).setCell (p := ⟨b, o', none⟩) hb u'
set_option maxRecDepth 100000 in
set_option maxHeartbeats 1000000 in
theorem max_any (v : Value) (L : List St) (w : World) (hL : Ss w.heap.size w v L) :
    Calls Try.prog 9 #[v] w fun e w' => e = .returned (.tuple #[sv (mxV L), .int .i64 (mxE L)]) ∧ Below w.heap.size w w' := by
  have HL := hid_of hL
  obtain ⟨l2, ao, cap, rfl, _⟩ := hL
  by_cases c1 : 64 < L.length
  · have HE : Hid (mxE L = 2) := hid_of (if_pos c1)
    have HV : Hid (mxV L = (0, 0)) := hid_of (if_neg (by rw [HE.out]; omega))
    go_enter Try.func9, Try.ntmps9
    go_wp2_with fail
    refine bodyPost_ret (v := .tuple #[.agg #[.int .i64 0, .int .i64 0], .int .i64 2]) (by simp [results, Try.results9, go_sem]) rfl ⟨?_, below_new _ _⟩
    rw [HE.out, HV.out]
    rfl
  · have t1 : ¬ (64 < (L.length : Int)) := by omega
    have HC := hid_of c1
    clear c1
    have B0 := hid_of (below_new2 w (.cells #[.int .i64 0, .int .i64 0] 23) (.cells #[.int .i64 0, .int .i64 0] 23))
    have X0 := hid_of (show Bs _ _ (0, 0) from heap_old (heap_new w (.cells #[.int .i64 0, .int .i64 0] 23)) (.cells #[.int .i64 0, .int .i64 0] 23))
    have Y0 := hid_of (show Bs _ (w.heap.size + 1) (0, 0) from heap_at (w.alloc (.cells #[.int .i64 0, .int .i64 0] 23)) (.cells #[.int .i64 0, .int .i64 0] 23) (size_new _ _))
    go_enter Try.func9, Try.ntmps9
    go_wp2_with fail
    generalize (w.alloc (.cells #[.int .i64 0, .int .i64 0] 23)).alloc (.cells #[.int .i64 0, .int .i64 0] 23) = W at *
    obtain ⟨g, hg⟩ : ∃ g, g = w.heap.size + 1 := ⟨_, rfl⟩
    have HG := hid_of hg
    rw [← hg] at Y0 ⊢
    clear hg
    go_loopw [15] (fun i w' => ∃ k : Nat, k ≤ L.length ∧ i = .int .i64 k ∧ Hid (sbad (L.take k) = false) ∧ Hid (Below w.heap.size w w' ∧ Bs w' w.heap.size (0, 0) ∧ Bs w' g (smx (0, 0) (L.take k)))) (fun i _ => L.length - (intOf i).toNat)
    case atStart => exact ⟨0, by omega, rfl, rfl, ⟨B0.out, X0.out, Y0.out⟩⟩
    case round =>
      obtain ⟨k, hk, rfl, HT, HW⟩ := hrel
      by_cases hlt : k < L.length
      · obtain ⟨b, off, rfl, hx, hy⟩ := (HL.out.below HW.out.1).at hlt
        have ht := sbad_take hlt
        rw [HT.out, Bool.false_or] at ht
        have HM := hid_of (@smx_take L k (0, 0) hlt)
        obtain ⟨⟨x, y⟩, hxe⟩ : ∃ p, L[k]?.getD (0, 0) = p := ⟨_, rfl⟩
        rw [hxe] at hx hy ht HM
        have HX := hid_of ht
        clear ht hxe
        obtain ⟨V, hV⟩ : ∃ V, V = wr.alloc (.cells #[.int .i64 x, .int .i64 y] 23) := ⟨_, rfl⟩
        have BV := hid_of (show Below wr.heap.size wr V by rw [hV]; exact below_new _ _)
        have XV := hid_of (show Bs V wr.heap.size (x, y) by rw [hV]; exact heap_new _ _)
        have HV := hid_of hV
        clear hV
        obtain ⟨z1, z2⟩ := XV.out.cells
        go_wp2_with fail
        rw [← HV.out]
        refine (check_any (x, y) _).mono ?_
        rintro e w1 ⟨rfl, h1⟩
        have G1 := hid_of (show Below w.heap.size w w1 from HW.out.1.trans ((BV.out.trans (h1.mono BV.out.size)).mono HW.out.1.size))
        have X1 := hid_of (show Bs w1 wr.heap.size (x, y) from XV.out.below h1 XV.out.lt)
        have R1 := hid_of (show Bs w1 w.heap.size (0, 0) from (HW.out.2.1.below BV.out HW.out.2.1.lt).below h1 (by have := HW.out.2.1.lt; have := BV.out.size; omega))
        have Y1 := hid_of (show Bs w1 g (smx (0, 0) (L.take k)) from (HW.out.2.2.below BV.out HW.out.2.2.lt).below h1 (by have := HW.out.2.2.lt; have := BV.out.size; omega))
        have N1 := hid_of (show wr.heap.size ≠ g from by have := HW.out.2.2.lt; omega)
        obtain ⟨y1, y2⟩ := X1.out.cells
        obtain ⟨r1, r2⟩ := R1.out.cells
        clear h1 BV XV HV z1 z2 HW hx hy V
        rcases sck_or (x, y) with ec | ec
        · rw [ec] at HX ⊢
          clear ec
          obtain ⟨q1, q2⟩ := Y1.out.cells
          generalize smx (0, 0) (L.take k) = m at *
          obtain ⟨m1, m2⟩ := m
          go_wp2_with fail
          refine (less_any (m1, m2) (x, y) _).mono ?_
          rintro e w2 ⟨rfl, h2⟩
          have G2 := hid_of (show Below w.heap.size w w2 from G1.out.trans (h2.mono G1.out.size))
          have X2 := hid_of (X1.out.below h2 X1.out.lt)
          have R2 := hid_of (R1.out.below h2 R1.out.lt)
          have Y2 := hid_of (Y1.out.below h2 Y1.out.lt)
          clear y1 y2 r1 r2 q1 q2 h2 G1 X1 R1 Y1
          obtain ⟨y1, y2⟩ := X2.out.cells
          obtain ⟨q1, q2⟩ := Y2.out.cells
          cases hs : slt (m1, m2) (x, y)
          · have HS := hid_of hs
            clear hs
            go_wp2_with fail
            go_roundw
            case rel => exact ⟨k + 1, by omega, by go_num, by rw [HX.out]; rfl, ⟨G2.out, R2.out, by rw [HM.out, HS.out]; exact Y2.out⟩⟩
            case measure => simp [intOf]; omega
          · have HS := hid_of hs
            clear hs
            obtain ⟨f1, f2, f3⟩ := Y2.out.st (.int .i64 x)
            have hgg : w.heap.size < g := by have := HG.out; omega
            have K1 := hid_of (below_put G2.out (b := g) (by omega) 0 1 (.int .i64 x) (.int .i64 y))
            have K2 := hid_of (R2.out.other (c := g) (by omega) 0 1 (.int .i64 x) (.int .i64 y))
            have K3 := hid_of (Y2.out.put (q := (x, y)))
            have HQ : Hid (smx (0, 0) (L.take (k + 1)) = (x, y)) := hid_of (by rw [HM.out, HS.out]; rfl)
            have HZ : Hid (sbad (L.take (k + 1)) = false) := hid_of (by rw [HX.out]; rfl)
            clear hgg HM HX
            go_wp2_with fail
            go_roundw
            case rel => exact ⟨k + 1, by omega, by go_num, HZ, ⟨K1.out, K2.out, by rw [HQ.out]; exact K3.out⟩⟩
            case measure => simp [intOf]; omega
        · rw [ec] at HX ⊢
          clear ec
          obtain ⟨f1, f2, f3⟩ := R1.out.st (.int .i64 0)
          have HB : Hid (sbad L = true) := hid_of (sbad_of_take (k := k + 1) (by rw [HX.out]; rfl))
          have HE : Hid (mxE L = 3) := hid_of (by unfold mxE; rw [if_neg HC.out, if_pos HB.out])
          have HV : Hid (mxV L = (0, 0)) := hid_of (if_neg (by rw [HE.out]; omega))
          have K1 := hid_of (R1.out.put (q := (0, 0)))
          have K2 := hid_of (below_put G1.out (b := w.heap.size) (Nat.le_refl _) 0 1 (.int .i64 0) (.int .i64 0))
          go_wp2_with fail
          obtain ⟨d1, d2⟩ := K1.out.cells
          refine bodyPost_ret (v := .tuple #[.agg #[.int .i64 0, .int .i64 0], .int .i64 3]) (by simp [results, Try.results9, go_sem, d1, d2]) rfl ⟨?_, K2.out⟩
          rw [HE.out, HV.out]
          rfl
      · have hke : L.take k = L := List.take_of_length_le (by omega)
        rw [hke] at HT HW
        clear hke
        have HE : Hid (mxE L = 0) := hid_of (by unfold mxE; rw [if_neg HC.out, HT.out]; rfl)
        have HV : Hid (mxV L = smx (0, 0) L) := hid_of (if_pos HE.out)
        obtain ⟨q1, q2⟩ := HW.out.2.2.cells
        generalize smx (0, 0) L = m at *
        obtain ⟨m1, m2⟩ := m
        obtain ⟨r1, r2⟩ := HW.out.2.1.cells
        obtain ⟨f1, f2, f3⟩ := HW.out.2.1.st (.int .i64 m1)
        have K1 := hid_of (HW.out.2.1.put (q := (m1, m2)))
        have K2 := hid_of (below_put HW.out.1 (b := w.heap.size) (Nat.le_refl _) 0 1 (.int .i64 m1) (.int .i64 m2))
        go_wp2_with fail
        obtain ⟨d1, d2⟩ := K1.out.cells
        refine bodyPost_ret (v := .tuple #[.agg #[.int .i64 m1, .int .i64 m2], .int .i64 0]) (by simp [results, Try.results9, go_sem, d1, d2]) rfl ⟨?_, K2.out⟩
        rw [HE.out, HV.out]
        rfl
end Go.Proofs.Ytcplbpnpcmgjfaa
