/- askBegun. -/
import Derived.Test.YtbmbnbhedalcnaaMh0
namespace Go.Proofs.Ytbmbnbhedalcnaa
open Go.RowKit
abbrev threeO (o : Out) : Out := .ask ((3 : Nat) ≤ n0_three ∧ n0_three ≤ 140737488355328) o
theorem run_begun : evV K24 noL Try.f16 [] [] = threeO (threeO (threeO (threeO (threeO (threeO (.ask ((0 : Int) ≤ 2 ∧ (2 : Int) < 3) (.ask ((2 : Nat) < 3) (.ask ((0 : Int) ≤ 0 ∧ (0 : Int) < 1) (.ask ((0 : Nat) < 1) (.done .ret ⟨[some (.bool true)], []⟩)))))))))) := by kernel_rfl
theorem q_begun : QOk K24.P 16 (listC [] gTrue) := list_q K24_ok Try.func16 rfl rfl (no_loops rfl) fun cas r _hb _hk h => by
  unfold gTrue at h
  split at h
  · cases h
    refine ⟨rfl, ?_⟩
    show (evV K24 noL _ [] []).sat _
    rw [run_begun]
    have e3 : (3 : Nat) ≤ n0_three ∧ n0_three ≤ 140737488355328 := ⟨by decide, by decide⟩
    exact sat_ask e3 (sat_ask e3 (sat_ask e3 (sat_ask e3 (sat_ask e3 (sat_ask e3 (sat_ask (by decide) (sat_ask (by decide) (sat_ask (by decide) (sat_ask (by decide) rfl)))))))))
  · cases h
noncomputable def K25 : Kn := K23.addQ 16 (listC [] gTrue)
theorem K25_ok : K25.Ok := K23_ok.addQ q_begun
theorem K25_P : K25.P = Try.prog := rfl
end Go.Proofs.Ytbmbnbhedalcnaa
