/- That the polynomial statements' own beginning answers true. -/
import Derived.Test.YtlccdceeppfleabSame
namespace Go.Proofs.Ytlccdceeppfleab
open Go.ChangeShapes Go.WideShapes Go.ChangeAt Go.RowKit Go.Shelf
theorem bs_new (w : World) (L : List Nat) (c : Array Value) (hc : c = (cellsB L).toArray) (hL : ∀ x ∈ L, x < 256) (hl : L.length ≤ 1000) (n : Nat) (hn : n = L.length) : Bs (w.heap.size + 1) (w.alloc (.cells c 5)) (.slice (some ⟨w.heap.size, 0, none⟩) n n) L := by
  subst hn
  refine ⟨hL, by omega, _, _, rfl, by omega, by simp, ?_⟩
  by_cases h : L = []
  · exact .inl h
  · refine .inr ⟨w.heap.size, 0, rfl, by omega, fun j hj => ?_⟩
    rw [Nat.zero_add, World.cell?_alloc_at _ _ _ _ rfl, hc, List.getElem?_toArray, cellsB_get hj]
theorem Bs.alloc {n : Nat} {w : World} {v : Value} {L : List Nat} (h : Bs n w v L) (hn : n ≤ w.heap.size) (o : Obj) : Bs n (w.alloc o) v L := h.below (((Below.refl n w)).alloc hn o)
set_option maxRecDepth 100000 in
set_option maxHeartbeats 2000000 in
theorem begun_any (w : World) :
    Calls Try.prog 5 #[] w fun e w' => e = .returned (.bool true) ∧ Below w.heap.size w w' := by
  have c1 : pm [1, 1] [2, 1, 0] = [2, 3, 1] := by decide +kernel
  have c2 : pdq [2, 3, 1] [2, 1] = [1, 1] := by decide +kernel
  have c3 : pdr [2, 3, 1] [2, 1] = [] := by decide +kernel
  have c4 : (mst [0, 1] [7, 5] 2).map (fun s => trim s.1) = some [7, 2] := by decide +kernel
  have c5 : mst [3, 3] [1, 2] 2 = none := by decide +kernel
  have c6 : pval [2, 3, 1] 1 = 0 := by decide +kernel
  have C := hid_of (And.intro c1 (And.intro c2 (And.intro c3 (And.intro c4 (And.intro c5 c6)))))
  clear c1 c2 c3 c4 c5 c6
  go_enter Try.func5, Try.ntmps5
  go_wp2_with fail
  have b1 := (bs_new w [1, 1] #[.int .u8 1, .int .u8 1] rfl (by decide) (by decide) 2 rfl).alloc (by simp) (.cells #[.int .u8 2, .int .u8 1, .int .u8 0] 5)
  have b2 := bs_new (w.alloc (.cells #[.int .u8 1, .int .u8 1] 5)) [2, 1, 0] #[.int .u8 2, .int .u8 1, .int .u8 0] rfl (by decide) (by decide) 3 rfl
  rw [World.size_alloc] at b2
  refine (mulp_any _ _ [1, 1] [2, 1, 0] _ (b1.mono (by simp)) (b2.mono (by simp)) (by decide) (by decide)).mono ?_
  rintro e w1 ⟨v1, rfl, hO1, hB1⟩
  rw [C.out.1] at hO1
  have B1 : Below w.heap.size w w1 := (((Below.refl w.heap.size w).alloc (Nat.le_refl _) _).alloc (by simp) _).trans (hB1.mono (by simp; omega))
  clear b1 b2 hB1
  have HB1 := hid_of B1
  have s1 := hid_of hO1.bs
  clear hO1 B1
  go_wp2_with fail
  have l2 := bs_new w1 [2, 1] #[.int .u8 2, .int .u8 1] rfl (by decide) (by decide) 2 rfl
  refine (div_any _ _ [2, 3, 1] [2, 1] _ ((s1.out.alloc (Nat.le_refl _) _).mono (by simp)) (l2.mono (by simp)) (by decide) (by decide) (by decide)).mono ?_
  rintro e w2 ⟨v2, r2, rfl, hO2, hR2, hB2⟩
  rw [C.out.2.1] at hO2
  rw [C.out.2.2.1] at hR2
  have B12 : Below w1.heap.size w1 w2 := ((Below.refl w1.heap.size w1).alloc (Nat.le_refl _) _).trans (hB2.mono (by simp))
  obtain ⟨ra, rc, hr2⟩ := hR2.shape
  subst hr2
  have s12 := hid_of ((s1.out.below B12).mono B12.size)
  have s2 := hid_of hO2.bs
  have HB2 := hid_of (HB1.out.trans (B12.mono HB1.out.size))
  clear l2 hO2 hR2 hB2 B12
  go_wp2_with fail
  have b1 := (bs_new w2 [0, 1] #[.int .u8 0, .int .u8 1] rfl (by decide) (by decide) 2 rfl).alloc (by simp) (.cells #[.int .u8 7, .int .u8 5] 5)
  have b2 := bs_new (w2.alloc (.cells #[.int .u8 0, .int .u8 1] 5)) [7, 5] #[.int .u8 7, .int .u8 5] rfl (by decide) (by decide) 2 rfl
  rw [World.size_alloc] at b2
  refine (meet_any _ _ [0, 1] [7, 5] _ (b1.mono (by simp)) (b2.mono (by simp)) (by decide) rfl).mono ?_
  rintro e w3 ⟨hE, hB3⟩
  have hm : ∃ s, mst [0, 1] [7, 5] 2 = some s ∧ trim s.1 = [7, 2] := by
    have h := C.out.2.2.2.1
    cases hs : mst [0, 1] [7, 5] 2 with
    | none => rw [hs] at h; cases h
    | some s => rw [hs] at h; exact ⟨s, rfl, by simpa using h⟩
  obtain ⟨s, hs, hst⟩ := hm
  have hs' : mst [0, 1] [7, 5] [0, 1].length = some s := hs
  rw [hs'] at hE
  obtain ⟨v3, rfl, hO3⟩ : ∃ v, _ ∧ _ := hE
  rw [hst] at hO3
  have B23 : Below w2.heap.size w2 w3 := (((Below.refl w2.heap.size w2).alloc (Nat.le_refl _) _).alloc (by simp) _).trans (hB3.mono (by simp; omega))
  have s13 := hid_of ((s12.out.below B23).mono B23.size)
  have s23 := hid_of ((s2.out.below B23).mono B23.size)
  have s3 := hid_of hO3.bs
  have HB3 := hid_of (HB2.out.trans (B23.mono HB2.out.size))
  clear b1 b2 hO3 hB3 B23 hs hs' hst
  go_wp2_with fail
  have b1 := (bs_new w3 [3, 3] #[.int .u8 3, .int .u8 3] rfl (by decide) (by decide) 2 rfl).alloc (by simp) (.cells #[.int .u8 1, .int .u8 2] 5)
  have b2 := bs_new (w3.alloc (.cells #[.int .u8 3, .int .u8 3] 5)) [1, 2] #[.int .u8 1, .int .u8 2] rfl (by decide) (by decide) 2 rfl
  rw [World.size_alloc] at b2
  refine (meet_any _ _ [3, 3] [1, 2] _ (b1.mono (by simp)) (b2.mono (by simp)) (by decide) rfl).mono ?_
  rintro e w4 ⟨hE, hB4⟩
  have hs' : mst [3, 3] [1, 2] [3, 3].length = none := C.out.2.2.2.2.1
  rw [hs'] at hE
  obtain rfl : e = _ := hE
  have B34 : Below w3.heap.size w3 w4 := (((Below.refl w3.heap.size w3).alloc (Nat.le_refl _) _).alloc (by simp) _).trans (hB4.mono (by simp; omega))
  have s14 := hid_of ((s13.out.below B34).mono B34.size)
  have s24 := hid_of ((s23.out.below B34).mono B34.size)
  have s34 := hid_of ((s3.out.below B34).mono B34.size)
  have HB4 := hid_of (HB3.out.trans (B34.mono HB3.out.size))
  clear b1 b2 hB4 B34 hs'
  go_wp2_with fail
  have l2 := bs_new w4 [0] #[.int .u8 0] rfl (by decide) (by decide) 1 rfl
  refine (div_none _ _ [2, 3, 1] [0] _ ((s14.out.alloc (Nat.le_refl _) _).mono (by simp)) (l2.mono (by simp)) (by decide) (by decide) (by decide)).mono ?_
  rintro e w5 ⟨rfl, hB5⟩
  have B45 : Below w4.heap.size w4 w5 := ((Below.refl w4.heap.size w4).alloc (Nat.le_refl _) _).trans (hB5.mono (by simp))
  have s15 := hid_of ((s14.out.below B45).mono B45.size)
  have s25 := hid_of ((s24.out.below B45).mono B45.size)
  have s35 := hid_of ((s34.out.below B45).mono B45.size)
  have HB5 := hid_of (HB4.out.trans (B45.mono HB4.out.size))
  clear l2 hB5 B45
  go_wp2_with fail
  have l2 := bs_new w5 [2, 3, 1] #[.int .u8 2, .int .u8 3, .int .u8 1] rfl (by decide) (by decide) 3 rfl
  refine (same_any _ _ [2, 3, 1] [2, 3, 1] (w5.heap.size + 1) _ ((s15.out.alloc (Nat.le_refl _) _).mono (by simp)) l2).mono ?_
  rintro e w6 ⟨rfl, hB6⟩
  rw [decide_eq_true rfl]
  have B56 : Below w5.heap.size w5 w6 := ((Below.refl w5.heap.size w5).alloc (Nat.le_refl _) _).trans (hB6.mono (by simp))
  have s16 := hid_of ((s15.out.below B56).mono B56.size)
  have s26 := hid_of ((s25.out.below B56).mono B56.size)
  have s36 := hid_of ((s35.out.below B56).mono B56.size)
  have HB6 := hid_of (HB5.out.trans (B56.mono HB5.out.size))
  clear l2 hB6 B56
  go_wp2_with fail
  have l2 := bs_new w6 [1, 1] #[.int .u8 1, .int .u8 1] rfl (by decide) (by decide) 2 rfl
  refine (same_any _ _ [1, 1] [1, 1] (w6.heap.size + 1) _ ((s26.out.alloc (Nat.le_refl _) _).mono (by simp)) l2).mono ?_
  rintro e w7 ⟨rfl, hB7⟩
  rw [decide_eq_true rfl]
  have B67 : Below w6.heap.size w6 w7 := ((Below.refl w6.heap.size w6).alloc (Nat.le_refl _) _).trans (hB7.mono (by simp))
  have s17 := hid_of ((s16.out.below B67).mono B67.size)
  have s37 := hid_of ((s36.out.below B67).mono B67.size)
  have HB7 := hid_of (HB6.out.trans (B67.mono HB6.out.size))
  clear l2 hB7 B67
  go_wp2_with fail
  have l2 := bs_new w7 [7, 2] #[.int .u8 7, .int .u8 2] rfl (by decide) (by decide) 2 rfl
  refine (same_any _ _ [7, 2] [7, 2] (w7.heap.size + 1) _ ((s37.out.alloc (Nat.le_refl _) _).mono (by simp)) l2).mono ?_
  rintro e w8 ⟨rfl, hB8⟩
  rw [decide_eq_true rfl]
  have B78 : Below w7.heap.size w7 w8 := ((Below.refl w7.heap.size w7).alloc (Nat.le_refl _) _).trans (hB8.mono (by simp))
  have s18 := hid_of ((s17.out.below B78).mono B78.size)
  have HB8 := hid_of (HB7.out.trans (B78.mono HB7.out.size))
  clear l2 hB8 B78
  go_wp2_with fail
  refine (value_any _ 1 (by omega) (by omega) [2, 3, 1] _ s18.out).mono ?_
  rintro e w9 ⟨rfl, hB9⟩
  rw [show (1 : Int).toNat = 1 from rfl, C.out.2.2.2.2.2]
  go_wp2_with fail
  go_ret
  exact ⟨rfl, HB8.out.trans (hB9.mono HB8.out.size)⟩
end Go.Proofs.Ytlccdceeppfleab
