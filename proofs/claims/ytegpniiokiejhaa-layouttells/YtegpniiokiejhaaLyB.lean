/- What must be in any case of layouts is so. -/
import Derived.Test.YtegpniiokiejhaaLy5
namespace Go.Proofs.Ytegpniiokiejhaa
open Go.ChangeShapes Go.WideShapes Go.ChangeAt Go.RowKit Go.Shelf
set_option maxHeartbeats 1000000 in
theorem five_any (w : World) : Calls Try.prog 40 #[] w fun e w' => e = .returned (lay 5 2 2 1) ∧ Below w.heap.size w w' := by
  go_enter Try.func40, Try.ntmps40
  go_wp2
  exact bodyPost_ret (v := .agg #[.int .i64 5, .int .i64 2, .int .i64 2, .int .i64 1]) (by simp [results, Try.results40, go_sem]) rfl ⟨rfl, below_new _ _⟩
theorem nodeB (w : World) : Calls Try.prog 9 #[lay 5 2 2 1, .int .i64 3, .int .i64 2] w fun e w' => e = .returned (.tuple #[.int .i64 1, .int .i64 0]) ∧ Below w.heap.size w w' := node_any 5 2 2 1 3 2 w
theorem pieceB1 (w : World) : Calls Try.prog 10 #[lay 5 2 2 1, .int .i64 3, .int .i64 1] w fun e w' => e = .returned (.tuple #[.int .i64 2, .bool true, .int .i64 0]) ∧ Below w.heap.size w w' := piece_any 5 2 2 1 3 1 w
theorem pieceB2 (w : World) : Calls Try.prog 10 #[lay 5 2 2 1, .int .i64 3, .int .i64 3] w fun e w' => e = .returned (.tuple #[.int .i64 0, .bool false, .int .i64 0]) ∧ Below w.heap.size w w' := piece_any 5 2 2 1 3 3 w
theorem blockB (w : World) : Calls Try.prog 11 #[lay 5 2 2 1, .int .i64 7] w fun e w' => e = .returned (.tuple #[.int .i64 3, .int .i64 1, .int .i64 0]) ∧ Below w.heap.size w w' := block_any 5 2 2 1 7 w
theorem loadB (w : World) : Calls Try.prog 12 #[lay 5 2 2 1, .int .i64 5] w fun e w' => ∃ v, e = .returned (.tuple #[v, .int .i64 0]) ∧ Is w'.heap.size w' v [4, 4, 4, 4, 4] ∧ Below w.heap.size w w' := load_any 5 2 2 1 5 w
theorem checkB (w : World) : Calls Try.prog 18 #[lay 3 2 2 0] w fun e w' => e = .returned (.int .i64 8) ∧ Below w.heap.size w w' := lcheck_any 3 2 2 0 w
theorem five_is (w : World) : Is (w.alloc (.cells #[.int .i64 4, .int .i64 4, .int .i64 4, .int .i64 4, .int .i64 4] 3)).heap.size (w.alloc (.cells #[.int .i64 4, .int .i64 4, .int .i64 4, .int .i64 4, .int .i64 4] 3)) (.slice (some ⟨w.heap.size, 0, none⟩) 5 5) [4, 4, 4, 4, 4] := by
  have h := heap_new w (.cells #[.int .i64 4, .int .i64 4, .int .i64 4, .int .i64 4, .int .i64 4] 3)
  refine ⟨by simp, _, 5, rfl, by simp, .inr ⟨w.heap.size, 0, rfl, heap_lt h, fun j hj => ?_⟩⟩
  simp only [List.length_cons, List.length_nil] at hj
  simp only [World.cell?, h]
  match j, hj with
  | 0, _ => rfl
  | 1, _ => rfl
  | 2, _ => rfl
  | 3, _ => rfl
  | 4, _ => rfl
set_option maxHeartbeats 1000000 in
theorem begun_any (w : World) : Calls Try.prog 17 #[] w fun e w' => e = .returned (.bool true) ∧ Below w.heap.size w w' := by
  have BB := hid_of (Below.refl w.heap.size w)
  go_enter Try.func17, Try.ntmps17
  go_wp2_with fail
  refine (five_any _).mono ?_
  rintro e w1 ⟨rfl, h⟩
  have BB := hid_of (BB.out.trans (h.mono BB.out.size)); clear h
  go_wp2_with fail
  refine (nodeB _).mono ?_
  rintro e w2 ⟨rfl, h⟩
  have BB := hid_of (BB.out.trans (h.mono BB.out.size)); clear h
  go_wp2_with fail
  refine (five_any _).mono ?_
  rintro e w3 ⟨rfl, h⟩
  have BB := hid_of (BB.out.trans (h.mono BB.out.size)); clear h
  go_wp2_with fail
  refine (pieceB1 _).mono ?_
  rintro e w4 ⟨rfl, h⟩
  have BB := hid_of (BB.out.trans (h.mono BB.out.size)); clear h
  go_wp2_with fail
  refine (five_any _).mono ?_
  rintro e w5 ⟨rfl, h⟩
  have BB := hid_of (BB.out.trans (h.mono BB.out.size)); clear h
  go_wp2_with fail
  refine (pieceB2 _).mono ?_
  rintro e w6 ⟨rfl, h⟩
  have BB := hid_of (BB.out.trans (h.mono BB.out.size)); clear h
  go_wp2_with fail
  refine (five_any _).mono ?_
  rintro e w7 ⟨rfl, h⟩
  have BB := hid_of (BB.out.trans (h.mono BB.out.size)); clear h
  go_wp2_with fail
  refine (blockB _).mono ?_
  rintro e w8 ⟨rfl, h⟩
  have BB := hid_of (BB.out.trans (h.mono BB.out.size)); clear h
  go_wp2_with fail
  refine (five_any _).mono ?_
  rintro e w9 ⟨rfl, h⟩
  have BB := hid_of (BB.out.trans (h.mono BB.out.size)); clear h
  go_wp2_with fail
  refine (loadB _).mono ?_
  rintro e w10 ⟨v, rfl, hI, h⟩
  have BB := hid_of (BB.out.trans (h.mono BB.out.size)); clear h
  have HI := hid_of hI; clear hI
  go_wp2_with fail
  refine (same_any _ _ [4, 4, 4, 4, 4] [4, 4, 4, 4, 4] _ _ ((HI.out.below (below_new _ _)).mono (below_new _ _).size) (five_is w10)).mono ?_
  rintro e w11 ⟨rfl, h⟩
  have BB := hid_of (BB.out.trans (((below_new w10 _).trans (h.mono (below_new _ _).size)).mono BB.out.size)); clear h
  rw [show decide (([4, 4, 4, 4, 4] : List Int) = [4, 4, 4, 4, 4]) = true from rfl]
  go_wp2_with fail
  refine (checkB _).mono ?_
  rintro e w12 ⟨rfl, h⟩
  have BB := hid_of (BB.out.trans (h.mono BB.out.size)); clear h
  go_wp2_with fail
  go_ret
  exact ⟨rfl, BB.out⟩
end Go.Proofs.Ytegpniiokiejhaa
