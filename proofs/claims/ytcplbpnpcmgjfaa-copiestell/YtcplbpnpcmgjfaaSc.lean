/- Next; stamps that are right. -/
import Derived.Test.YtcplbpnpcmgjfaaSb
namespace Go.Proofs.Ytcplbpnpcmgjfaa
open Go.ChangeShapes Go.WideShapes Go.ChangeAt Go.RowKit Go.Shelf
/-- a right stamp -/
def Sok (p : St) : Prop := 0 ≤ p.1 ∧ p.1 ≤ 1000000 ∧ 0 ≤ p.2 ∧ p.2 ≤ 31
theorem sck_zero {p : St} (h : sck p = 0) : Sok p := by
  unfold sck at h
  split at h
  · omega
  · rename_i c
    simp only [not_or] at c
    exact ⟨by omega, by omega, by omega, by omega⟩
theorem sck_of {p : St} (h : Sok p) : sck p = 0 := by
  obtain ⟨a, b, c, d⟩ := h
  exact if_neg (by omega)
theorem sck_three {p : St} (h : ¬ Sok p) : sck p = 3 := by
  rcases sck_or p with e | e
  · exact absurd (sck_zero e) h
  · exact e
theorem sbad_no {L : List St} (h : sbad L = false) : ∀ p ∈ L, Sok p := by
  intro p hp
  have := List.any_eq_false.1 h p hp
  simp at this
  exact sck_zero this
theorem sbad_of {L : List St} (h : ∀ p ∈ L, Sok p) : sbad L = false := by
  unfold sbad
  rw [List.any_eq_false]
  intro p hp
  simp [sck_of (h p hp)]
theorem smx_cons (g p : St) (L : List St) : smx g (p :: L) = smx (if slt g p = true then p else g) L := rfl
theorem smx_mem : ∀ (L : List St) (g : St), smx g L = g ∨ smx g L ∈ L
  | [], g => .inl rfl
  | p :: L, g => by
    rw [smx_cons]
    rcases smx_mem L (if slt g p = true then p else g) with h | h
    · rw [h]
      split
      · exact .inr (List.mem_cons_self ..)
      · exact .inl rfl
    · exact .inr (List.mem_cons_of_mem _ h)
theorem mx_zero {L : List St} (h : mxE L = 0) : L.length ≤ 64 ∧ (∀ p ∈ L, Sok p) := by
  unfold mxE at h
  split at h
  · omega
  · split at h
    · omega
    · rename_i a b
      exact ⟨by omega, sbad_no (by simpa using b)⟩
theorem mx_of {L : List St} (h1 : L.length ≤ 64) (h2 : ∀ p ∈ L, Sok p) : mxE L = 0 := by
  unfold mxE
  rw [if_neg (by omega), if_neg (by rw [sbad_of h2]; simp)]
theorem mx_ok {L : List St} (h : mxE L = 0) : Sok (mxV L) := by
  have e : mxV L = smx (0, 0) L := if_pos h
  rw [e]
  rcases smx_mem L (0, 0) with k | k
  · rw [k]; exact ⟨by simp, by simp, by simp, by simp⟩
  · exact (mx_zero h).2 _ k
theorem mx_or (L : List St) : mxE L = 0 ∨ mxE L = 2 ∨ mxE L = 3 := by
  unfold mxE
  split
  · exact .inr (.inl rfl)
  · split
    · exact .inr (.inr rfl)
    · exact .inl rfl
/-- all that a store of a stamp into a box wants -/
theorem Bs.all {V : World} {b : Nat} {p : St} (h : Bs V b p) (x y : Int) : V.cell? ⟨b, 0, none⟩ = some (.int .i64 p.1) ∧ V.frozen? ⟨b, 0, none⟩ = false ∧ (V.setCell ⟨b, 0, none⟩ (.int .i64 x)).cell? ⟨b, 1, none⟩ = some (.int .i64 p.2) ∧ (V.setCell ⟨b, 0, none⟩ (.int .i64 x)).frozen? ⟨b, 1, none⟩ = false ∧
    ((V.setCell ⟨b, 0, none⟩ (.int .i64 x)).setCell ⟨b, 1, none⟩ (.int .i64 y)).cell? ⟨b, 0, none⟩ = some (.int .i64 x) ∧ ((V.setCell ⟨b, 0, none⟩ (.int .i64 x)).setCell ⟨b, 1, none⟩ (.int .i64 y)).cell? ⟨b, 1, none⟩ = some (.int .i64 y) := by
  obtain ⟨a1, a2, a3⟩ := h.st (.int .i64 x)
  obtain ⟨c1, c2⟩ := (h.put (q := (x, y))).cells
  exact ⟨h.cells.1, a1, a2, a3, c1, c2⟩
/-- Next's error -/
def nxE (L : List St) (u : Int) : Int := if mxE L = 0 then sck ((mxV L).1 + 1, u) else mxE L
/-- Next's answer -/
def nxV (L : List St) (u : Int) : St := if nxE L u = 0 then ((mxV L).1 + 1, u) else (0, 0)
set_option maxRecDepth 100000 in
set_option maxHeartbeats 1000000 in
theorem next_any (v : Value) (L : List St) (u : Int) (w : World) (hL : Ss w.heap.size w v L) :
    Calls Try.prog 10 #[v, .int .i64 u] w fun e w' => e = .returned (.tuple #[sv (nxV L u), .int .i64 (nxE L u)]) ∧ Below w.heap.size w w' := by
  have HL := hid_of hL
  obtain ⟨a, c, rfl⟩ := hL.shape
  clear hL
  have HN : Hid (∀ p : St, sv p = .agg #[.int .i64 p.1, .int .i64 p.2]) := fun _ => rfl
  have B0 := hid_of (below_new w (.cells #[.int .i64 0, .int .i64 0] 23))
  have R0 := hid_of (show Bs _ _ (0, 0) from heap_new w (.cells #[.int .i64 0, .int .i64 0] 23))
  go_enter Try.func10, Try.ntmps10
  go_wp2_with fail
  generalize w.alloc (.cells #[.int .i64 0, .int .i64 0] 23) = W at *
  refine (max_any _ L _ ((HL.out.below B0.out).mono B0.out.size)).mono ?_
  rintro e w1 ⟨rfl, h1⟩
  have B1 := hid_of (B0.out.trans (h1.mono B0.out.size))
  have R1 := hid_of (R0.out.below h1 R0.out.lt)
  clear h1 B0 R0
  have HK := hid_of (@mx_ok L)
  have HE : Hid (nxE L u = if mxE L = 0 then sck ((mxV L).1 + 1, u) else mxE L) := rfl
  have HV : Hid (nxV L u = if nxE L u = 0 then ((mxV L).1 + 1, u) else (0, 0)) := rfl
  rw [HN.out (mxV L)]
  generalize mxV L = m at *
  generalize mxE L = me at *
  obtain ⟨m1, m2⟩ := m
  by_cases c : me = 0
  · subst c
    obtain ⟨q1, q2, q3, q4⟩ := HK.out rfl
    simp only at q1 q2 q3 q4
    have HE2 : Hid (nxE L u = sck (m1 + 1, u)) := hid_of (by rw [HE.out, if_pos rfl])
    have HV2 : Hid (nxV L u = if sck (m1 + 1, u) = 0 then (m1 + 1, u) else (0, 0)) := hid_of (by rw [HV.out, HE2.out])
    clear HE HV HK
    have b2 := below_new2 w1 (.cells #[.int .i64 m1, .int .i64 m2] 23) (.cells #[.int .i64 (m1 + 1), .int .i64 u] 23)
    have B2 := hid_of (B1.out.trans (b2.mono B1.out.size))
    have R2 := hid_of (R1.out.below b2 R1.out.lt)
    have N2 := hid_of (show Bs _ (w1.heap.size + 1) (m1 + 1, u) from heap_at (w1.alloc (.cells #[.int .i64 m1, .int .i64 m2] 23)) (.cells #[.int .i64 (m1 + 1), .int .i64 u] 23) (size_new _ _))
    clear b2 B1 R1
    go_wp2_with fail
    generalize (w1.alloc (.cells #[.int .i64 m1, .int .i64 m2] 23)).alloc (.cells #[.int .i64 (m1 + 1), .int .i64 u] 23) = V at *
    refine (check_any (m1 + 1, u) _).mono ?_
    rintro e w2 ⟨rfl, h2⟩
    have B3 := hid_of (B2.out.trans (h2.mono B2.out.size))
    have R3 := hid_of (R2.out.below h2 R2.out.lt)
    have N3 := hid_of (N2.out.below h2 N2.out.lt)
    clear h2 B2 R2 N2
    rcases sck_or (m1 + 1, u) with ec | ec
    · rw [ec] at HE2 HV2 ⊢
      rw [if_pos rfl] at HV2
      clear ec
      obtain ⟨f1, f2, f3, f4, f5, f6⟩ := R3.out.all (m1 + 1) u
      obtain ⟨y1, y2⟩ := N3.out.cells
      have B4 := hid_of (below_put B3.out (b := w.heap.size) (Nat.le_refl _) 0 1 (.int .i64 (m1 + 1)) (.int .i64 u))
      go_wp2_with fail
      refine bodyPost_ret (v := .tuple #[.agg #[.int .i64 (m1 + 1), .int .i64 u], .int .i64 0]) (by simp [results, Try.results10, go_sem, f5, f6]) rfl ⟨?_, B4.out⟩
      rw [HE2.out, HV2.out]
      rfl
    · rw [ec] at HE2 HV2 ⊢
      rw [if_neg (by omega)] at HV2
      clear ec
      obtain ⟨f1, f2, f3, f4, f5, f6⟩ := R3.out.all 0 0
      have B4 := hid_of (below_put B3.out (b := w.heap.size) (Nat.le_refl _) 0 1 (.int .i64 0) (.int .i64 0))
      go_wp2_with fail
      refine bodyPost_ret (v := .tuple #[.agg #[.int .i64 0, .int .i64 0], .int .i64 3]) (by simp [results, Try.results10, go_sem, f5, f6]) rfl ⟨?_, B4.out⟩
      rw [HE2.out, HV2.out]
      rfl
  · have t1 : (me != 0) = true := bne_iff_ne.2 c
    have HE2 : Hid (nxE L u = me) := hid_of (by rw [HE.out, if_neg c])
    have HV2 : Hid (nxV L u = (0, 0)) := hid_of (by rw [HV.out, HE2.out, if_neg c])
    clear HE HV c HK
    have b2 := below_new w1 (.cells #[.int .i64 m1, .int .i64 m2] 23)
    have R2 := hid_of (R1.out.below b2 R1.out.lt)
    have B2 := hid_of (B1.out.trans (b2.mono B1.out.size))
    obtain ⟨f1, f2, f3, f4, f5, f6⟩ := R2.out.all 0 0
    have B3 := hid_of (below_put B2.out (b := w.heap.size) (Nat.le_refl _) 0 1 (.int .i64 0) (.int .i64 0))
    clear b2
    go_wp2_with fail
    refine bodyPost_ret (v := .tuple #[.agg #[.int .i64 0, .int .i64 0], .int .i64 me]) (by simp [results, Try.results10, go_sem, f5, f6]) rfl ⟨?_, B3.out⟩
    rw [HE2.out, HV2.out]
    rfl
end Go.Proofs.Ytcplbpnpcmgjfaa
