/- What quorum.Enough answers. -/
import Derived.Test.YtegpniiokiejhaaQc
namespace Go.Proofs.Ytegpniiokiejhaa
open Go.ChangeShapes Go.WideShapes Go.ChangeAt Go.RowKit Go.Shelf
/-- Enough's error -/
def enE (L : List Int) (need : Int) (s : Nat) : Int := qcs (qk L need) (smE L s)
/-- Enough's answer -/
def enB (L : List Int) (need : Int) (s : Nat) : Bool := decide (enE L need s = 0) && decide (need ≤ sm L s L.length)
theorem en_zero {L : List Int} {need : Int} {s : Nat} (h : enE L need s = 0) : Qok L need ∧ s < 2 ^ L.length := by
  unfold enE qcs at h
  split at h
  · rename_i c
    exact ⟨qk_zero c, (sm_zero h).2⟩
  · omega
theorem en_of {L : List Int} {need : Int} {s : Nat} (h : Qok L need) (hs : s < 2 ^ L.length) : enE L need s = 0 := by
  unfold enE qcs
  rw [if_pos (qk_of h), sm_of h.w hs]
theorem en_sum {L : List Int} {need : Int} {s : Nat} (h : qk L need = 0) : enE L need s = smE L s ∧ enB L need s = decide (need ≤ smV L s) := by
  have e : enE L need s = smE L s := by unfold enE qcs; rw [if_pos h]
  refine ⟨e, ?_⟩
  have hq := qk_zero h
  unfold enB smV
  rw [e]
  by_cases c : smE L s = 0
  · rw [if_pos c, decide_eq_true c, Bool.true_and]
  · rw [if_neg c, decide_eq_false c, Bool.false_and, decide_eq_false (by have := hq.n1; omega)]
theorem en_no {L : List Int} {need : Int} {s : Nat} (h : qk L need ≠ 0) : enE L need s = qk L need ∧ enB L need s = false := by
  have e : enE L need s = qk L need := by unfold enE qcs; rw [if_neg h]
  refine ⟨e, ?_⟩
  unfold enB
  rw [e, decide_eq_false h]
  rfl
theorem smV_bd {L : List Int} (s : Nat) : 0 ≤ smV L s ∧ smV L s ≤ 1200 := by
  unfold smV
  split
  · rename_i h
    have hw := (sm_zero h).1
    have := hw.sm s L.length (Nat.le_refl _)
    have := hw.l2
    omega
  · omega
set_option maxHeartbeats 1000000 in
theorem Enough_any (v : Value) (L : List Int) (need : Int) (s : Nat) (w : World) (hs64 : s < 18446744073709551616) (hL : Is w.heap.size w v L) :
    Calls Try.prog 22 #[v, .int .i64 need, .int .u64 s] w fun e w' => e = .returned (.tuple #[.bool (enB L need s), .int .i64 (enE L need s)]) ∧ Below w.heap.size w w' := by
  have HL := hid_of hL
  by_cases c0 : qk L need = 0
  · obtain ⟨e1, e2⟩ := en_sum (s := s) c0
    rw [e1, e2]
    have HC := hid_of (Check_any v L need w hL)
    rw [c0] at HC
    have HS := hid_of (fun W hI => Sum_any v L s W hs64 hI)
    obtain ⟨q1, q2⟩ := smV_bd (L := L) s
    clear c0 e1 e2 hL
    generalize smV L s = y at *
    generalize smE L s = z at *
    go_enter Try.func22, Try.ntmps22
    go_wp2_with fail
    refine HC.out.mono ?_
    rintro e w1 ⟨rfl, h1⟩
    go_wp2_with fail
    refine (HS.out _ ((HL.out.below h1).mono h1.size)).mono ?_
    rintro e w2 ⟨rfl, h2⟩
    go_wp2_with fail
    go_ret2
    exact ⟨rfl, h1.trans (h2.mono h1.size)⟩
  · obtain ⟨e1, e2⟩ := en_no (s := s) c0
    rw [e1, e2]
    have HC := hid_of (Check_any v L need w hL)
    generalize qk L need = x at *
    have tx : (x != 0) = true := by rw [bne_iff_ne]; exact c0
    clear e1 e2 hL
    go_enter Try.func22, Try.ntmps22
    go_wp2_with fail
    refine HC.out.mono ?_
    rintro e w1 ⟨rfl, h1⟩
    go_wp2_with fail
    go_ret2
    exact ⟨rfl, h1⟩
end Go.Proofs.Ytegpniiokiejhaa
