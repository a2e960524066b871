/- What must be in any case of stamps is so. -/
import Derived.Test.YtcplbpnpcmgjfaaSc
namespace Go.Proofs.Ytcplbpnpcmgjfaa
open Go.ChangeShapes Go.WideShapes Go.ChangeAt Go.RowKit Go.Shelf
set_option maxHeartbeats 1000000 in
theorem at_any (t u : Int) (w : World) : Calls Try.prog 27 #[.int .i64 t, .int .i64 u] w fun e w' => e = .returned (sv (t, u)) ∧ Below w.heap.size w w' := by
  go_enter Try.func27, Try.ntmps27
  go_wp2_with fail
  exact bodyPost_ret (v := .agg #[.int .i64 t, .int .i64 u]) (by simp [results, Try.results27, go_sem]) rfl ⟨rfl, below_new _ _⟩
theorem row_ss3 (w : World) (a b c : St) : Ss (w.alloc (.cells #[.int .i64 a.1, .int .i64 a.2, .int .i64 b.1, .int .i64 b.2, .int .i64 c.1, .int .i64 c.2] 23)).heap.size (w.alloc (.cells #[.int .i64 a.1, .int .i64 a.2, .int .i64 b.1, .int .i64 b.2, .int .i64 c.1, .int .i64 c.2] 23)) (.slice (some ⟨w.heap.size, 0, none⟩) 3 3) [a, b, c] := by
  have h := heap_new w (.cells #[.int .i64 a.1, .int .i64 a.2, .int .i64 b.1, .int .i64 b.2, .int .i64 c.1, .int .i64 c.2] 23)
  refine ⟨by simp, _, 3, rfl, by simp, .inr ⟨w.heap.size, 0, rfl, heap_lt h, fun j hj => ?_⟩⟩
  simp only [List.length_cons, List.length_nil] at hj
  simp only [World.cell?, h]
  match j, hj with
  | 0, _ => exact ⟨rfl, rfl⟩
  | 1, _ => exact ⟨rfl, rfl⟩
  | 2, _ => exact ⟨rfl, rfl⟩
theorem row_ss1 (w : World) (a : St) : Ss (w.alloc (.cells #[.int .i64 a.1, .int .i64 a.2] 23)).heap.size (w.alloc (.cells #[.int .i64 a.1, .int .i64 a.2] 23)) (.slice (some ⟨w.heap.size, 0, none⟩) 1 1) [a] := by
  have h := heap_new w (.cells #[.int .i64 a.1, .int .i64 a.2] 23)
  refine ⟨by simp, _, 1, rfl, by simp, .inr ⟨w.heap.size, 0, rfl, heap_lt h, fun j hj => ?_⟩⟩
  simp only [List.length_cons, List.length_nil] at hj
  simp only [World.cell?, h]
  match j, hj with
  | 0, _ => exact ⟨rfl, rfl⟩
theorem maxB (w : World) : Calls Try.prog 9 #[.slice (some ⟨w.heap.size, 0, none⟩) 3 3] (w.alloc (.cells #[.int .i64 3, .int .i64 1, .int .i64 3, .int .i64 4, .int .i64 2, .int .i64 9] 23)) fun e w' => e = .returned (.tuple #[.agg #[.int .i64 3, .int .i64 4], .int .i64 0]) ∧ Below w.heap.size w w' := by
  refine (max_any _ [(3, 1), (3, 4), (2, 9)] _ (row_ss3 w (3, 1) (3, 4) (2, 9))).mono ?_
  rintro e w' ⟨rfl, h⟩
  exact ⟨rfl, (below_new _ _).trans (h.mono (below_new _ _).size)⟩
theorem nextB1 (w : World) (b : Nat) (hb : w.heap.size = b) : Calls Try.prog 10 #[.slice (some ⟨b, 0, none⟩) 1 1, .int .i64 2] (w.alloc (.cells #[.int .i64 3, .int .i64 4] 23)) fun e w' => e = .returned (.tuple #[.agg #[.int .i64 4, .int .i64 2], .int .i64 0]) ∧ Below w.heap.size w w' := by
  subst hb
  refine (next_any _ [(3, 4)] _ _ (row_ss1 w (3, 4))).mono ?_
  rintro e w' ⟨rfl, h⟩
  exact ⟨rfl, (below_new _ _).trans (h.mono (below_new _ _).size)⟩
theorem nextB2 (w : World) : Calls Try.prog 10 #[.slice (some ⟨w.heap.size, 0, none⟩) 1 1, .int .i64 2] (w.alloc (.cells #[.int .i64 1000000, .int .i64 0] 23)) fun e w' => e = .returned (.tuple #[.agg #[.int .i64 0, .int .i64 0], .int .i64 3]) ∧ Below w.heap.size w w' := by
  refine (next_any _ [(1000000, 0)] _ _ (row_ss1 w (1000000, 0))).mono ?_
  rintro e w' ⟨rfl, h⟩
  exact ⟨rfl, (below_new _ _).trans (h.mono (below_new _ _).size)⟩
theorem atB (t u : Int) (w : World) : Calls Try.prog 27 #[.int .i64 t, .int .i64 u] w fun e w' => e = .returned (.agg #[.int .i64 t, .int .i64 u]) ∧ Below w.heap.size w w' := at_any t u w
theorem lessB (t u t' u' : Int) (w : World) : Calls Try.prog 16 #[.agg #[.int .i64 t, .int .i64 u], .agg #[.int .i64 t', .int .i64 u']] w fun e w' => e = .returned (.bool (slt (t, u) (t', u'))) ∧ Below w.heap.size w w' := less_any (t, u) (t', u') w
theorem checkB (t u : Int) (w : World) : Calls Try.prog 14 #[.agg #[.int .i64 t, .int .i64 u]] w fun e w' => e = .returned (.int .i64 (sck (t, u))) ∧ Below w.heap.size w w' := check_any (t, u) w
set_option maxRecDepth 100000 in
set_option maxHeartbeats 1000000 in
theorem begunS_any (w : World) : Calls Try.prog 13 #[] w fun e w' => e = .returned (.bool true) ∧ Below w.heap.size w w' := by
  have hmx : Try.prog.follows Departure.mixedOrders = true := by kernel_rfl
  have HN : Hid (∀ t u : Int, sv (t, u) = .agg #[.int .i64 t, .int .i64 u]) := fun _ _ => rfl
  have BB := hid_of (Below.refl w.heap.size w)
  go_enter Try.func13, Try.ntmps13
  go_wp2_with fail
  refine (at_any _ _ _).mono ?_
  rintro e w1 ⟨rfl, h⟩
  rw [HN.out]
  have BB := hid_of (BB.out.trans (h.mono BB.out.size)); clear h
  go_wp2_with fail
  refine (at_any _ _ _).mono ?_
  rintro e w2 ⟨rfl, h⟩
  rw [HN.out]
  have BB := hid_of (BB.out.trans (h.mono BB.out.size)); clear h
  go_wp2_with fail
  refine (at_any _ _ _).mono ?_
  rintro e w3 ⟨rfl, h⟩
  rw [HN.out]
  have BB := hid_of (BB.out.trans (h.mono BB.out.size)); clear h
  go_wp2_with fail
  refine (maxB _).mono ?_
  rintro e w4 ⟨rfl, h⟩
  have BB := hid_of (BB.out.trans (h.mono BB.out.size)); clear h
  have bn := below_new w4 (.cells #[.int .i64 3, .int .i64 4] 23)
  have M5 := hid_of (show Bs _ _ (3, 4) from heap_new w4 (.cells #[.int .i64 3, .int .i64 4] 23))
  have BB := hid_of (BB.out.trans (bn.mono BB.out.size)); clear bn
  have S5 := hid_of (size_new w4 (.cells #[.int .i64 3, .int .i64 4] 23))
  obtain ⟨g1, hg1⟩ : ∃ g, g = w4.heap.size := ⟨_, rfl⟩
  go_wp2_with fail
  generalize w4.alloc (.cells #[.int .i64 3, .int .i64 4] 23) = w5 at *
  rw [← hg1] at *
  clear hg1
  refine (nextB1 _ _ S5.out).mono ?_
  rintro e w6 ⟨rfl, h⟩
  have BB := hid_of (BB.out.trans (h.mono BB.out.size))
  have M6 := hid_of (M5.out.below h M5.out.lt); clear h M5
  have bn := below_new w6 (.cells #[.int .i64 4, .int .i64 2] 23)
  have N7 := hid_of (show Bs _ _ (4, 2) from heap_new w6 (.cells #[.int .i64 4, .int .i64 2] 23))
  have M7 := hid_of (M6.out.below bn M6.out.lt); clear M6
  have BB := hid_of (BB.out.trans (bn.mono BB.out.size)); clear bn
  obtain ⟨g2, hg2⟩ : ∃ g, g = w6.heap.size := ⟨_, rfl⟩
  go_wp2_with fail
  generalize w6.alloc (.cells #[.int .i64 4, .int .i64 2] 23) = w7 at *
  rw [← hg2] at *
  clear hg2
  refine (atB _ _ _).mono ?_
  rintro e w8 ⟨rfl, h⟩
  have BB := hid_of (BB.out.trans (h.mono BB.out.size))
  have M8 := hid_of (M7.out.below h M7.out.lt)
  have N8 := hid_of (N7.out.below h N7.out.lt); clear h M7 N7
  go_wp2_with fail
  refine (nextB2 _).mono ?_
  rintro e w9 ⟨rfl, h⟩
  have BB := hid_of (BB.out.trans (h.mono BB.out.size))
  have M9 := hid_of (M8.out.below h M8.out.lt)
  have N9 := hid_of (N8.out.below h N8.out.lt); clear h M8 N8
  have bn := below_new w9 (.cells #[.int .i64 0, .int .i64 0] 23)
  have M10 := hid_of (M9.out.below bn M9.out.lt)
  have N10 := hid_of (N9.out.below bn N9.out.lt)
  have BB := hid_of (BB.out.trans (bn.mono BB.out.size)); clear bn M9 N9
  go_wp2_with fail
  generalize w9.alloc (.cells #[.int .i64 0, .int .i64 0] 23) = w10 at *
  have HC : Hid (∀ w', Below w10.heap.size w10 w' → _) := hid_of fun w' (hw' : Below w10.heap.size w10 w') => (M10.out.below hw' M10.out.lt).cells
  have HD : Hid (∀ w', Below w10.heap.size w10 w' → _) := hid_of fun w' (hw' : Below w10.heap.size w10 w') => (N10.out.below hw' N10.out.lt).cells
  refine wp_region_quiet (C := fun w' => Below w10.heap.size w10 w') hmx (by kernel_rfl) ((Below.refl _ _).drew) ?_
  repeat
    refine wpQuiet_step (fun K hK => ?_)
    go_simp
    first
      | (refine ⟨_, fun w' hw' => rfl, hK _ ?_⟩; clear hK K)
      | (refine ⟨_, fun w' hw' => (by simp only [HC.out w' hw', Result.andThen]; first | exact ⟨rfl, rfl⟩ | exact ⟨trivial, rfl⟩ | rfl), hK _ ?_⟩; clear hK K)
      | (refine ⟨_, fun w' hw' => (by simp only [HD.out w' hw', Result.andThen]; first | exact ⟨rfl, rfl⟩ | exact ⟨trivial, rfl⟩ | rfl), hK _ ?_⟩; clear hK K)
      | (refine ⟨_, fun w' hw' => (atB _ _ _).mono (by rintro e w2 ⟨rfl, hB⟩; exact ⟨rfl, hw'.trans (hB.mono hw'.size)⟩), hK _ ?_⟩; clear hK K)
      | (refine ⟨_, fun w' hw' => (lessB _ _ _ _ _).mono (by rintro e w2 ⟨rfl, hB⟩; exact ⟨rfl, hw'.trans (hB.mono hw'.size)⟩), hK _ ?_⟩; clear hK K)
      | (refine ⟨_, fun w' hw' => (checkB _ _ _).mono (by rintro e w2 ⟨rfl, hB⟩; exact ⟨rfl, hw'.trans (hB.mono hw'.size)⟩), hK _ ?_⟩; clear hK K)
      | (refine hK _ ?_; clear hK K)
  refine wpQuiet_nil ?_
  intro wq hq
  go_wp2_with fail
  go_ret
  exact ⟨ret_bool (by decide), BB.out.trans (hq.mono BB.out.size)⟩
end Go.Proofs.Ytcplbpnpcmgjfaa
