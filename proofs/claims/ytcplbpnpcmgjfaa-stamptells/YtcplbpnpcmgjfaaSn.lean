/- The reference's StampNext. -/
import Derived.Test.YtcplbpnpcmgjfaaSf
namespace Go.Proofs.Ytcplbpnpcmgjfaa
open Go.ChangeShapes Go.WideShapes Go.ChangeAt Go.RowKit Go.Shelf
set_option maxRecDepth 100000 in
set_option maxHeartbeats 1000000 in
theorem rnext_any (v : Value) (L : List St) (u : Int) (w : World) (hL : Ss w.heap.size w v L) :
    Calls Try.prog 12 #[v, .int .i64 u] w fun e w' => e = .returned (.tuple #[sv (nxV L u), .int .i64 (nxE L u)]) ∧ Below w.heap.size w w' := by
  have HL := hid_of hL
  obtain ⟨a, c, rfl⟩ := hL.shape
  clear hL
  have HN : Hid (∀ p : St, sv p = .agg #[.int .i64 p.1, .int .i64 p.2]) := fun _ => rfl
  have B0 := hid_of (below_new w (.cells #[.int .i64 0, .int .i64 0] 23))
  have R0 := hid_of (show Bs _ _ (0, 0) from heap_new w (.cells #[.int .i64 0, .int .i64 0] 23))
  go_enter Try.func12, Try.ntmps12
  go_wp2_with fail
  generalize w.alloc (.cells #[.int .i64 0, .int .i64 0] 23) = W at *
  refine (rmax_any _ L _ ((HL.out.below B0.out).mono B0.out.size)).mono ?_
  rintro e w1 ⟨rfl, h1⟩
  have B1 := hid_of (B0.out.trans (h1.mono B0.out.size))
  have R1 := hid_of (R0.out.below h1 R0.out.lt)
  clear h1 B0 R0
  have HK := hid_of (@mx_ok L)
  have HE : Hid (nxE L u = if mxE L = 0 then sck ((mxV L).1 + 1, u) else mxE L) := rfl
  have HV : Hid (nxV L u = if nxE L u = 0 then ((mxV L).1 + 1, u) else (0, 0)) := rfl
  rw [HN.out (mxV L)]
  generalize mxV L = m at *
  generalize mxE L = me at *
  obtain ⟨m1, m2⟩ := m
  have b2 := below_new w1 (.cells #[.int .i64 m1, .int .i64 m2] 23)
  have R2 := hid_of (R1.out.below b2 R1.out.lt)
  have B2 := hid_of (B1.out.trans (b2.mono B1.out.size))
  have M2 := hid_of (show Bs _ _ (m1, m2) from heap_new w1 (.cells #[.int .i64 m1, .int .i64 m2] 23))
  clear b2
  have HZ : Hid (∀ x y : Int, _) := hid_of (fun x y => R2.out.all x y)
  have B3 := hid_of (fun x y : Int => below_put B2.out (b := w.heap.size) (Nat.le_refl _) 0 1 (.int .i64 x) (.int .i64 y))
  by_cases c : me = 0
  · subst c
    obtain ⟨q1, q2, q3, q4⟩ := HK.out rfl
    simp only at q1 q2 q3 q4
    have HE2 : Hid (nxE L u = sck (m1 + 1, u)) := hid_of (by rw [HE.out, if_pos rfl])
    have HV2 : Hid (nxV L u = if sck (m1 + 1, u) = 0 then (m1 + 1, u) else (0, 0)) := hid_of (by rw [HV.out, HE2.out])
    clear HE HV HK
    obtain ⟨k1, k2⟩ := M2.out.cells
    by_cases d1 : u < 0
    · have HS : Hid (sck (m1 + 1, u) = 3) := hid_of (sck_three (fun h => by have := h.2.2.1; simp only at this; omega))
      rw [HS.out] at HE2 HV2
      rw [if_neg (by omega)] at HV2
      obtain ⟨f1, f2, f3, f4, f5, f6⟩ := HZ.out 0 0
      go_wp2_with fail
      refine bodyPost_ret (v := .tuple #[.agg #[.int .i64 0, .int .i64 0], .int .i64 3]) (by simp [results, Try.results12, go_sem, f5, f6]) rfl ⟨?_, B3.out 0 0⟩
      rw [HE2.out, HV2.out]
      rfl
    by_cases d2 : 31 < u
    · have HS : Hid (sck (m1 + 1, u) = 3) := hid_of (sck_three (fun h => by have := h.2.2.2; simp only at this; omega))
      rw [HS.out] at HE2 HV2
      rw [if_neg (by omega)] at HV2
      obtain ⟨f1, f2, f3, f4, f5, f6⟩ := HZ.out 0 0
      go_wp2_with fail
      refine bodyPost_ret (v := .tuple #[.agg #[.int .i64 0, .int .i64 0], .int .i64 3]) (by simp [results, Try.results12, go_sem, f5, f6]) rfl ⟨?_, B3.out 0 0⟩
      rw [HE2.out, HV2.out]
      rfl
    by_cases d3 : 1000000 ≤ m1
    · have HS : Hid (sck (m1 + 1, u) = 3) := hid_of (sck_three (fun h => by have := h.2.1; simp only at this; omega))
      rw [HS.out] at HE2 HV2
      rw [if_neg (by omega)] at HV2
      obtain ⟨f1, f2, f3, f4, f5, f6⟩ := HZ.out 0 0
      go_wp2_with fail
      refine bodyPost_ret (v := .tuple #[.agg #[.int .i64 0, .int .i64 0], .int .i64 3]) (by simp [results, Try.results12, go_sem, f5, f6]) rfl ⟨?_, B3.out 0 0⟩
      rw [HE2.out, HV2.out]
      rfl
    · have HS : Hid (sck (m1 + 1, u) = 0) := hid_of (sck_of ⟨by simp only; omega, by simp only; omega, by simp only; omega, by simp only; omega⟩)
      rw [HS.out] at HE2 HV2
      rw [if_pos rfl] at HV2
      obtain ⟨f1, f2, f3, f4, f5, f6⟩ := HZ.out (m1 + 1) u
      go_wp2_with fail
      refine bodyPost_ret (v := .tuple #[.agg #[.int .i64 (m1 + 1), .int .i64 u], .int .i64 0]) (by simp [results, Try.results12, go_sem, f5, f6]) rfl ⟨?_, B3.out (m1 + 1) u⟩
      rw [HE2.out, HV2.out]
      rfl
  · have t1 : (me != 0) = true := bne_iff_ne.2 c
    have HE2 : Hid (nxE L u = me) := hid_of (by rw [HE.out, if_neg c])
    have HV2 : Hid (nxV L u = (0, 0)) := hid_of (by rw [HV.out, HE2.out, if_neg c])
    clear HE HV c HK
    obtain ⟨f1, f2, f3, f4, f5, f6⟩ := HZ.out 0 0
    go_wp2_with fail
    refine bodyPost_ret (v := .tuple #[.agg #[.int .i64 0, .int .i64 0], .int .i64 me]) (by simp [results, Try.results12, go_sem, f5, f6]) rfl ⟨?_, B3.out 0 0⟩
    rw [HE2.out, HV2.out]
    rfl
end Go.Proofs.Ytcplbpnpcmgjfaa
