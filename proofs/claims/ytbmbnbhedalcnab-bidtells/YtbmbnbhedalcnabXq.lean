/- seatBegun, run on its own numbers. -/
import Derived.Test.YtbmbnbhedalcnabXqt
namespace Go.Proofs.Ytbmbnbhedalcnab
open Go.RowKit
-- @file xq.out
theorem run_begun : evV K22 noL Try.f8 [] [] = Out.ask ((3 : Nat) ≤ n0_three ∧ n0_three ≤ (140737488355328 : Nat)) (Out.ask ((3 : Nat) ≤ n0_three ∧ n0_three ≤ (140737488355328 : Nat)) (Out.ask ((3 : Nat) ≤ n0_three ∧ n0_three ≤ (140737488355328 : Nat)) (Out.ask ((0 : Int) ≤ (0 : Int) ∧ (0 : Int) < (1 : Int)) (Out.ask ((0 : Nat) < (1 : Nat)) (Out.ask ((0 : Int) ≤ (0 : Int) ∧ (0 : Int) < (1 : Int)) (Out.ask ((0 : Nat) < (1 : Nat)) (Out.ask ((0 : Int) ≤ (1 : Int) ∧ (1 : Int) < (3 : Int)) (Out.ask ((1 : Nat) < (3 : Nat)) (Out.done AE.ret { slots := [some (Value.bool true)], heap := [] }))))))))) := by kernel_rfl
-- @end
theorem q_begun : QOk K22.P 8 (listC [] gTrue) := list_q K22_ok Try.func8 rfl rfl (no_loops rfl) fun cas r _hb _hk h => by
  unfold gTrue at h
  split at h
  · cases h
    refine ⟨rfl, ?_⟩
    show (evV K22 noL _ [] []).sat _
    rw [run_begun]
    have e3 : (3 : Nat) ≤ n0_three ∧ n0_three ≤ (140737488355328 : Nat) := ⟨by decide, by decide⟩
    exact sat_ask e3 (sat_ask e3 (sat_ask e3 (sat_ask (by decide) (sat_ask (by decide) (sat_ask (by decide) (sat_ask (by decide) (sat_ask (by decide) (sat_ask (by decide) (leaf_v rfl)))))))))
  · cases h
noncomputable def K23 : Kn := K21.addQ 8 (listC [] gTrue)
theorem K23_ok : K23.Ok := K21_ok.addQ q_begun
theorem K23_P : K23.P = Try.prog := rfl
end Go.Proofs.Ytbmbnbhedalcnab
