/- What the statements' own comparison of two lists answers: whether they are the same. -/
import Derived.Test.YtlccdceeppfleabMeet
import Derived.BigQuiet
import Derived.Deep.QuietTactic
namespace Go.Proofs.Ytlccdceeppfleab
open Go.ChangeShapes Go.WideShapes Go.ChangeAt Go.RowKit Go.Shelf
theorem below_drewN {B : Nat} {a : World} : ∀ (n : Nat) {w : World}, Below B a w → Below B a (w.drewN n) := by
  intro n w h
  exact ⟨h.os, h.tape, h.output, h.size, h.block⟩
theorem Bs.drewN {n : Nat} {w : World} {v : Value} {L : List Nat} (h : Bs n w v L) (m : Nat) : Bs n (w.drewN m) v L := h
theorem same_len (A B : List Nat) (h : A.length ≠ B.length) : decide (A = B) = false := decide_eq_false (fun e => h (by rw [e]))
set_option maxRecDepth 100000 in
set_option maxHeartbeats 1000000 in
theorem same_any (av bv : Value) (A B : List Nat) (n : Nat) (w : World) (hA : Bs n w av A) (hB : Bs n w bv B) :
    Calls Try.prog 13 #[av, bv] w fun e w' => e = .returned (.bool (decide (A = B))) ∧ Below w.heap.size w w' := by
  obtain ⟨a1, a2, ao, cap, rfl, _, _, a6⟩ := hA
  obtain ⟨b1, b2, bo, cbp, rfl, _, _, b6⟩ := hB
  by_cases hl : A.length = B.length
  · have hne : ((A.length : Int) != (B.length : Int)) = false := by rw [hl]; simp
    have A6 := hid_of a6
    have B6 := hid_of b6
    have A1 := hid_of a1
    have B1 := hid_of b1
    have HL := hid_of hl
    clear a6 b6 a1 b1 hl
    go_enter Try.func13, Try.ntmps13
    go_wp2_with fail
    go_loopw [5] (fun i w' => ∃ k : Nat, k ≤ A.length ∧ i = .int .i64 k ∧ Hid (A.take k = B.take k) ∧ Hid (∃ m, w' = w.drewN m)) (fun i _ => A.length - (intOf i).toNat)
    case atStart => exact ⟨0, by omega, rfl, rfl, ⟨0, rfl⟩⟩
    case round =>
      obtain ⟨k, hk, rfl, HT, HW⟩ := hrel
      obtain ⟨m, rfl⟩ := HW.out
      by_cases hlt : k < A.length
      · have hlt' : k < B.length := by have := HL.out; omega
        rcases A6.out with h | ⟨b, off, rfl, hb, hc⟩
        · rw [h] at hlt; simp at hlt
        rcases B6.out with h | ⟨b', off', rfl, hb', hc'⟩
        · rw [h] at hlt'; simp at hlt'
        have hx := hc k hlt
        have hy := hc' k hlt'
        have et : A.take (k + 1) = B.take (k + 1) ↔ A[k]?.getD 0 = B[k]?.getD 0 := by
          rw [List.take_succ_eq_append_getElem hlt, List.take_succ_eq_append_getElem hlt', HT.out, List.getElem?_eq_getElem hlt, List.getElem?_eq_getElem hlt', List.append_cancel_left_eq]
          simp
        have ET := hid_of et
        obtain ⟨x, hxe⟩ : ∃ x, A[k]?.getD 0 = x := ⟨_, rfl⟩
        obtain ⟨y, hye⟩ : ∃ y, B[k]?.getD 0 = y := ⟨_, rfl⟩
        rw [hxe] at hx
        rw [hye] at hy
        have HXE := hid_of hxe
        have HYE := hid_of hye
        clear hc hc' et hxe hye
        by_cases e : x = y
        · have hxy : ((x : Int) != (y : Int)) = false := by rw [e]; simp
          have HEq := hid_of e
          clear e
          go_wp2_with fail
          go_quiet (fail)
          go_wp2_with fail
          go_roundw
          case rel => exact ⟨k + 1, by omega, by go_num, ET.out.2 (by rw [HXE.out, HYE.out]; exact HEq.out), ⟨_, rfl⟩⟩
          case measure => simp [intOf]; omega
        · have hxy : ((x : Int) != (y : Int)) = true := by rw [bne_iff_ne]; omega
          have HNe := hid_of e
          clear e
          go_wp2_with fail
          go_quiet (fail)
          go_wp2_with fail
          go_ret
          refine ⟨ret_bool (decide_eq_false (fun c => ?_)).symm, below_drewN _ (below_drewN _ (Below.refl _ _))⟩
          have := ET.out.1 (by rw [c])
          rw [HXE.out, HYE.out] at this
          exact HNe.out this
      · have hAB : A = B := by
          have := HT.out
          rw [List.take_of_length_le (by omega), List.take_of_length_le (by have := HL.out; omega)] at this
          exact this
        have HAB := hid_of hAB
        clear hAB
        go_wp2_with fail
        go_ret
        exact ⟨ret_bool (decide_eq_true HAB.out).symm, below_drewN _ (Below.refl _ _)⟩
  · have hne : ((A.length : Int) != (B.length : Int)) = true := by rw [bne_iff_ne]; omega
    have HL := hid_of (same_len A B hl)
    clear hl a6 b6
    go_enter Try.func13, Try.ntmps13
    go_wp2_with fail
    go_ret
    exact ⟨ret_bool HL.out.symm, Below.refl _ _⟩
end Go.Proofs.Ytlccdceeppfleab
