/- Lists of numbers in memory; what the reference's comparison of two answers. -/
import Derived.Test.YtegpniiokiejhaaLy
namespace Go.Proofs.Ytegpniiokiejhaa
open Go.ChangeShapes Go.WideShapes Go.ChangeAt Go.RowKit Go.Shelf
/-- The slice value v holds the numbers L; n: all its memory lies below block n. -/
def Is (n : Nat) (w : World) (v : Value) (L : List Int) : Prop :=
  L.length ≤ 140737488351232 ∧ ∃ ao cap, v = .slice ao L.length cap ∧ L.length ≤ cap ∧
    (L = [] ∨ ∃ b off, ao = some ⟨b, off, none⟩ ∧ b < n ∧ ∀ j, j < L.length → w.cell? ⟨b, off + j, none⟩ = some (.int .i64 (L[j]?.getD 0)))
theorem Is.below {n : Nat} {w w' : World} {v : Value} {L : List Int} (h : Is n w v L) (hb : Below n w w') : Is n w' v L := by
  obtain ⟨h2, ao, cap, h3, h4, h6⟩ := h
  refine ⟨h2, ao, cap, h3, h4, ?_⟩
  rcases h6 with h6 | ⟨b, off, h7, h8, h9⟩
  · exact .inl h6
  · exact .inr ⟨b, off, h7, h8, fun j hj => (hb.cell (p := ⟨b, off + j, none⟩) h8).trans (h9 j hj)⟩
theorem Is.mono {n m : Nat} {w : World} {v : Value} {L : List Int} (h : Is n w v L) (hm : n ≤ m) : Is m w v L := by
  obtain ⟨h2, ao, cap, h3, h4, h6⟩ := h
  refine ⟨h2, ao, cap, h3, h4, ?_⟩
  rcases h6 with h6 | ⟨b, off, h7, h8, h9⟩
  · exact .inl h6
  · exact .inr ⟨b, off, h7, by omega, h9⟩
theorem Is.shape {n : Nat} {w : World} {v : Value} {L : List Int} (h : Is n w v L) : ∃ a c, v = .slice a L.length c := by
  obtain ⟨_, a, c, h, _⟩ := h
  exact ⟨a, c, h⟩
theorem Is.at {n l c : Nat} {w : World} {a : Option Addr} {L : List Int} (h : Is n w (.slice a l c) L) {j : Nat} (hj : j < L.length) : ∃ b off, a = some ⟨b, off, none⟩ ∧ w.cell? ⟨b, off + j, none⟩ = some (.int .i64 (L[j]?.getD 0)) := by
  obtain ⟨_, a', c', h, _, h6⟩ := h
  injection h with h _ _
  subst h
  rcases h6 with h | ⟨b, off, e, _, hc⟩
  · rw [h] at hj; simp at hj
  · exact ⟨b, off, e, hc j hj⟩
theorem below_drewM {B : Nat} {a : World} : ∀ (n : Nat) {w : World}, Below B a w → Below B a (w.drewN n) := by
  intro n w h
  exact ⟨h.os, h.tape, h.output, h.size, h.block⟩
theorem same_len (A B : List Int) (h : A.length ≠ B.length) : decide (A = B) = false := decide_eq_false (fun e => h (by rw [e]))
set_option maxRecDepth 100000 in
set_option maxHeartbeats 1000000 in
theorem same_any (av bv : Value) (A B : List Int) (n : Nat) (w : World) (hA : Is n w av A) (hB : Is n w bv B) :
    Calls Try.prog 20 #[av, bv] w fun e w' => e = .returned (.bool (decide (A = B))) ∧ Below w.heap.size w w' := by
  obtain ⟨a2, ao, cap, rfl, _, a6⟩ := hA
  obtain ⟨b2, bo, cbp, rfl, _, b6⟩ := hB
  by_cases hl : A.length = B.length
  · have hne : ((A.length : Int) != (B.length : Int)) = false := by rw [hl]; simp
    have A6 := hid_of a6
    have B6 := hid_of b6
    have HL := hid_of hl
    clear a6 b6 hl
    go_enter Try.func20, Try.ntmps20
    go_wp2_with fail
    go_loopw [5] (fun i w' => ∃ k : Nat, k ≤ A.length ∧ i = .int .i64 k ∧ Hid (A.take k = B.take k) ∧ Hid (∃ m, w' = w.drewN m)) (fun i _ => A.length - (intOf i).toNat)
    case atStart => exact ⟨0, by omega, rfl, rfl, ⟨0, rfl⟩⟩
    case round =>
      obtain ⟨k, hk, rfl, HT, HW⟩ := hrel
      obtain ⟨m, rfl⟩ := HW.out
      by_cases hlt : k < A.length
      · have hlt' : k < B.length := by have := HL.out; omega
        rcases A6.out with h | ⟨b, off, rfl, hb, hc⟩
        · rw [h] at hlt; simp at hlt
        rcases B6.out with h | ⟨b', off', rfl, hb', hc'⟩
        · rw [h] at hlt'; simp at hlt'
        have hx := hc k hlt
        have hy := hc' k hlt'
        have et : A.take (k + 1) = B.take (k + 1) ↔ A[k]?.getD 0 = B[k]?.getD 0 := by
          rw [List.take_succ_eq_append_getElem hlt, List.take_succ_eq_append_getElem hlt', HT.out, List.getElem?_eq_getElem hlt, List.getElem?_eq_getElem hlt', List.append_cancel_left_eq]
          simp
        have ET := hid_of et
        obtain ⟨x, hxe⟩ : ∃ x, A[k]?.getD 0 = x := ⟨_, rfl⟩
        obtain ⟨y, hye⟩ : ∃ y, B[k]?.getD 0 = y := ⟨_, rfl⟩
        rw [hxe] at hx
        rw [hye] at hy
        have HXE := hid_of hxe
        have HYE := hid_of hye
        clear hc hc' et hxe hye
        by_cases e : x = y
        · have hxy : (x != y) = false := by rw [e]; simp
          have HEq := hid_of e
          clear e
          go_wp2_with fail
          go_quiet (fail)
          go_wp2_with fail
          go_roundw
          case rel => exact ⟨k + 1, by omega, by go_num, ET.out.2 (by rw [HXE.out, HYE.out]; exact HEq.out), ⟨_, rfl⟩⟩
          case measure => simp [intOf]; omega
        · have hxy : (x != y) = true := by rw [bne_iff_ne]; exact e
          have HNe := hid_of e
          clear e
          go_wp2_with fail
          go_quiet (fail)
          go_wp2_with fail
          go_ret
          refine ⟨ret_bool (decide_eq_false (fun c => ?_)).symm, below_drewM _ (below_drewM _ (Below.refl _ _))⟩
          have := ET.out.1 (by rw [c])
          rw [HXE.out, HYE.out] at this
          exact HNe.out this
      · have hAB : A = B := by
          have := HT.out
          rw [List.take_of_length_le (by omega), List.take_of_length_le (by have := HL.out; omega)] at this
          exact this
        have HAB := hid_of hAB
        clear hAB
        go_wp2_with fail
        go_ret
        exact ⟨ret_bool (decide_eq_true HAB.out).symm, below_drewM _ (Below.refl _ _)⟩
  · have hne : ((A.length : Int) != (B.length : Int)) = true := by rw [bne_iff_ne]; omega
    have HL := hid_of (same_len A B hl)
    clear hl a6 b6
    go_enter Try.func20, Try.ntmps20
    go_wp2_with fail
    go_ret
    exact ⟨ret_bool HL.out.symm, Below.refl _ _⟩
end Go.Proofs.Ytegpniiokiejhaa
