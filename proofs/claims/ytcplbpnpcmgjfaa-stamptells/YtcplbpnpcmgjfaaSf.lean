/- The reference's StampMax. -/
import Derived.Test.YtcplbpnpcmgjfaaSm
import Derived.Test.YtcplbpnpcmgjfaaSe
namespace Go.Proofs.Ytcplbpnpcmgjfaa
open Go.ChangeShapes Go.WideShapes Go.ChangeAt Go.RowKit Go.Shelf
/-- the greatest from the j-th on, met from the end -/
def smd (L : List St) (j : Nat) : St := smx (0, 0) (L.drop j).reverse
theorem smd_step {L : List St} {k : Nat} (hk : k < L.length) : smd L k = if slt (smd L (k + 1)) (L[k]?.getD (0, 0)) = true then L[k]?.getD (0, 0) else smd L (k + 1) := by
  unfold smd smx
  rw [List.drop_eq_getElem_cons hk, List.reverse_cons, List.foldl_append, List.getElem?_eq_getElem hk]
  rfl
theorem smd_end (L : List St) : smd L L.length = (0, 0) := by
  unfold smd
  rw [List.drop_length]
  rfl
theorem smd_zero (L : List St) : smd L 0 = smx (0, 0) L := smx_rev (0, 0) L
set_option maxRecDepth 100000 in
set_option maxHeartbeats 1000000 in
theorem rmax_any (v : Value) (L : List St) (w : World) (hL : Ss w.heap.size w v L) :
    Calls Try.prog 11 #[v] w fun e w' => e = .returned (.tuple #[sv (mxV L), .int .i64 (mxE L)]) ∧ Below w.heap.size w w' := by
  have HL := hid_of hL
  obtain ⟨l2, ao, cap, rfl, _⟩ := hL
  by_cases c1 : 64 < L.length
  · have HE : Hid (mxE L = 2) := hid_of (if_pos c1)
    have HV : Hid (mxV L = (0, 0)) := hid_of (if_neg (by rw [HE.out]; omega))
    go_enter Try.func11, Try.ntmps11
    go_wp2_with fail
    refine bodyPost_ret (v := .tuple #[.agg #[.int .i64 0, .int .i64 0], .int .i64 2]) (by simp [results, Try.results11, go_sem]) rfl ⟨?_, below_new _ _⟩
    rw [HE.out, HV.out]
    rfl
  · have t1 : ¬ (64 < (L.length : Int)) := by omega
    have HC1 := hid_of c1
    have hmx : Try.prog.follows Departure.mixedOrders = true := by kernel_rfl
    clear c1
    have B0 := hid_of (below_new2 w (.cells #[.int .i64 0, .int .i64 0] 23) (.cells #[.int .i64 0, .int .i64 0] 23))
    have X0 := hid_of (show Bs _ _ (0, 0) from heap_old (heap_new w (.cells #[.int .i64 0, .int .i64 0] 23)) (.cells #[.int .i64 0, .int .i64 0] 23))
    have Y0 := hid_of (show Bs _ (w.heap.size + 1) (0, 0) from heap_at (w.alloc (.cells #[.int .i64 0, .int .i64 0] 23)) (.cells #[.int .i64 0, .int .i64 0] 23) (size_new _ _))
    go_enter Try.func11, Try.ntmps11
    go_wp2_with fail
    generalize (w.alloc (.cells #[.int .i64 0, .int .i64 0] 23)).alloc (.cells #[.int .i64 0, .int .i64 0] 23) = W at *
    obtain ⟨g, hg⟩ : ∃ g, g = w.heap.size + 1 := ⟨_, rfl⟩
    have HG := hid_of hg
    rw [← hg] at Y0 ⊢
    clear hg
    go_loopw [5] (fun i w' => ∃ k : Nat, k ≤ L.length ∧ i = .int .i64 ((k : Int) - 1) ∧ Hid (Below w.heap.size w w' ∧ Bs w' w.heap.size (0, 0) ∧ Bs w' g (smd L k))) (fun i _ => (intOf i + 1).toNat)
    case atStart => exact ⟨L.length, by omega, by go_num, ⟨B0.out, X0.out, by rw [smd_end]; exact Y0.out⟩⟩
    case round =>
      obtain ⟨k, hk, rfl, HW⟩ := hrel
      by_cases hlt : 0 < k
      · obtain ⟨k, rfl⟩ : ∃ m, k = m + 1 := ⟨k - 1, by omega⟩
        have hkl : k < L.length := by omega
        obtain ⟨b, off, rfl, hx, hy⟩ := (HL.out.below HW.out.1).at hkl
        have HM := hid_of (smd_step hkl)
        obtain ⟨⟨x, y⟩, hxe⟩ : ∃ p, L[k]?.getD (0, 0) = p := ⟨_, rfl⟩
        rw [hxe] at hx hy HM
        clear hxe
        obtain ⟨⟨m1, m2⟩, hm⟩ : ∃ p, smd L (k + 1) = p := ⟨_, rfl⟩
        rw [hm] at HM HW
        clear hm
        obtain ⟨q1, q2⟩ := HW.out.2.2.cells
        have ek : ((k + 1 : Nat) : Int) - 1 = k := by omega
        rw [ek]
        have t5 : (0 : Int) ≤ k := by omega
        have t6 : (k : Int) < L.length := by omega
        have HC : Hid (∀ w', Below wr.heap.size wr w' → w'.cell? ⟨b, off + k * 2, none⟩ = some (.int .i64 x) ∧ w'.cell? ⟨b, off + k * 2 + 1, none⟩ = some (.int .i64 y)) := hid_of (fun w' hw' => ⟨(hw'.cell (p := ⟨b, off + k * 2, none⟩) (cell_lt hx)).trans hx, (hw'.cell (p := ⟨b, off + k * 2 + 1, none⟩) (cell_lt hy)).trans hy⟩)
        have HD : Hid (∀ w', Below wr.heap.size wr w' → w'.cell? ⟨g, 0, none⟩ = some (.int .i64 m1) ∧ w'.cell? ⟨g, 1, none⟩ = some (.int .i64 m2)) := hid_of fun w' (hw' : Below wr.heap.size wr w') => (HW.out.2.2.below hw' HW.out.2.2.lt).cells
        go_wp2_with fail
        refine wp_region_quiet (C := fun w' => Below wr.heap.size wr w') hmx (by kernel_rfl) ((Below.refl _ _).drew) ?_
        repeat
          refine wpQuiet_step (fun K hK => ?_)
          go_simp
          first
            | (refine ⟨_, fun w' hw' => rfl, hK _ ?_⟩; clear hK K)
            | (refine ⟨_, fun w' hw' => (by simp only [HC.out w' hw', Result.andThen]; first | exact ⟨rfl, rfl⟩ | exact ⟨trivial, rfl⟩ | rfl), hK _ ?_⟩; clear hK K)
            | (refine ⟨_, fun w' hw' => (by simp only [HD.out w' hw', Result.andThen]; first | exact ⟨rfl, rfl⟩ | exact ⟨trivial, rfl⟩ | rfl), hK _ ?_⟩; clear hK K)
            | (refine ⟨_, fun w' hw' => (rlessB _ _ _ _ _).mono (by rintro e w2 ⟨rfl, hB⟩; exact ⟨rfl, hw'.trans (hB.mono hw'.size)⟩), hK _ ?_⟩; clear hK K)
            | (refine hK _ ?_; clear hK K)
        refine wpQuiet_nil ?_
        intro wq hq
        have G2 := hid_of (show Below w.heap.size w wq from HW.out.1.trans (hq.mono HW.out.1.size))
        have R2 := hid_of (HW.out.2.1.below hq HW.out.2.1.lt)
        have Y2 := hid_of (HW.out.2.2.below hq HW.out.2.2.lt)
        have hx2 := (hq.cell (p := ⟨b, off + k * 2, none⟩) (cell_lt hx)).trans hx
        have hy2 := (hq.cell (p := ⟨b, off + k * 2 + 1, none⟩) (cell_lt hy)).trans hy
        clear q1 q2 hx hy hq HW HC HD
        cases hs : slt (m1, m2) (x, y)
        · have HS := hid_of hs
          clear hs
          go_wp2_with fail
          go_roundw
          case rel => exact ⟨k, by omega, by go_num, ⟨G2.out, R2.out, by rw [HM.out, HS.out]; exact Y2.out⟩⟩
          case measure => simp [intOf]
        · have HS := hid_of hs
          clear hs
          obtain ⟨f1, f2, f3, f4, f5, f6⟩ := Y2.out.all x y
          have hgg : w.heap.size < g := by have := HG.out; omega
          have K1 := hid_of (below_put G2.out (b := g) (by omega) 0 1 (.int .i64 x) (.int .i64 y))
          have K2 := hid_of (R2.out.other (c := g) (by omega) 0 1 (.int .i64 x) (.int .i64 y))
          have K3 := hid_of (Y2.out.put (q := (x, y)))
          have HQ : Hid (smd L k = (x, y)) := hid_of (by rw [HM.out, HS.out]; rfl)
          clear hgg HM
          go_wp2_with fail
          go_roundw
          case rel => exact ⟨k, by omega, by go_num, ⟨K1.out, K2.out, by rw [HQ.out]; exact K3.out⟩⟩
          case measure => simp [intOf]
      · obtain rfl : k = 0 := by omega
        rw [smd_zero] at HW
        clear hk hlt
        go_wp2_with fail
        go_loopw [6] (fun i w' => ∃ k : Nat, k ≤ L.length ∧ i = .int .i64 k ∧ Hid (sbad (L.take k) = false) ∧ Hid (Below w.heap.size w w' ∧ Bs w' w.heap.size (0, 0) ∧ Bs w' g (smx (0, 0) L))) (fun i _ => L.length - (intOf i).toNat)
        case atStart => exact ⟨0, by omega, rfl, rfl, HW⟩
        case round =>
          clear HW
          obtain ⟨k, hk, rfl, HT, HW⟩ := hrel
          by_cases hlt : k < L.length
          · obtain ⟨b, off, rfl, hx, hy⟩ := (HL.out.below HW.out.1).at hlt
            have ht := sbad_take hlt
            rw [HT.out, Bool.false_or] at ht
            obtain ⟨⟨x, y⟩, hxe⟩ : ∃ p, L[k]?.getD (0, 0) = p := ⟨_, rfl⟩
            rw [hxe] at hx hy ht
            have HX := hid_of ht
            clear ht hxe
            go_wp2_with fail
            refine (rcheckB x y _).mono ?_
            rintro e w1 ⟨rfl, h1⟩
            have G1 := hid_of (show Below w.heap.size w w1 from HW.out.1.trans (h1.mono HW.out.1.size))
            have R1 := hid_of (show Bs w1 w.heap.size (0, 0) from HW.out.2.1.below h1 HW.out.2.1.lt)
            have Y1 := hid_of (show Bs w1 g (smx (0, 0) L) from HW.out.2.2.below h1 HW.out.2.2.lt)
            clear h1 HW hx hy
            rcases sck_or (x, y) with ec | ec
            · rw [ec] at HX ⊢
              clear ec
              go_wp2_with fail
              refine ⟨?_, ?measure2⟩
              · repeat apply Exists.intro
                refine ⟨?rel2, rfl⟩
                case rel2 => exact ⟨k + 1, by omega, by go_num, by rw [HX.out]; rfl, ⟨G1.out, R1.out, Y1.out⟩⟩
              case measure2 => simp [intOf]; omega
            · rw [ec] at HX ⊢
              clear ec
              obtain ⟨f1, f2, f3, f4, f5, f6⟩ := R1.out.all 0 0
              have HB : Hid (sbad L = true) := hid_of (sbad_of_take (k := k + 1) (by rw [HX.out]; rfl))
              have HE : Hid (mxE L = 3) := hid_of (by unfold mxE; rw [if_neg HC1.out, if_pos HB.out])
              have HV : Hid (mxV L = (0, 0)) := hid_of (if_neg (by rw [HE.out]; omega))
              have K2 := hid_of (below_put G1.out (b := w.heap.size) (Nat.le_refl _) 0 1 (.int .i64 0) (.int .i64 0))
              go_wp2_with fail
              refine bodyPost_ret (v := .tuple #[.agg #[.int .i64 0, .int .i64 0], .int .i64 3]) (by simp [results, Try.results11, go_sem, f5, f6]) rfl ⟨?_, K2.out⟩
              rw [HE.out, HV.out]
              rfl
          · have hke : L.take k = L := List.take_of_length_le (by omega)
            rw [hke] at HT
            clear hke
            have HE : Hid (mxE L = 0) := hid_of (by unfold mxE; rw [if_neg HC1.out, HT.out]; rfl)
            have HV : Hid (mxV L = smx (0, 0) L) := hid_of (if_pos HE.out)
            obtain ⟨⟨m1, m2⟩, hm⟩ : ∃ p, smx (0, 0) L = p := ⟨_, rfl⟩
            rw [hm] at HV HW
            clear hm
            obtain ⟨q1, q2⟩ := HW.out.2.2.cells
            obtain ⟨f1, f2, f3, f4, f5, f6⟩ := HW.out.2.1.all m1 m2
            have K2 := hid_of (below_put HW.out.1 (b := w.heap.size) (Nat.le_refl _) 0 1 (.int .i64 m1) (.int .i64 m2))
            go_wp2_with fail
            refine bodyPost_ret (v := .tuple #[.agg #[.int .i64 m1, .int .i64 m2], .int .i64 0]) (by simp [results, Try.results11, go_sem, f5, f6]) rfl ⟨?_, K2.out⟩
            rw [HE.out, HV.out]
            rfl
end Go.Proofs.Ytcplbpnpcmgjfaa
