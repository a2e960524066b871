/- What must be in any case. -/
import Derived.Test.YtehmikiejfbmeaaLz6
namespace Go.Proofs.Ytehmikiejfbmeaa
open Go.RowKit
theorem run_begun : evV K7 noL Try.f17 [] [] = .done .ret ⟨[some (.bool true)], []⟩ := by kernel_rfl
theorem q_begun : QOk K7.P 17 (listC [] gTrue) := list_q K7_ok Try.func17 rfl rfl (no_loops rfl) fun cas r _hb _hk h => by
  unfold gTrue at h
  split at h
  · cases h
    refine ⟨rfl, ?_⟩
    show (evV K7 noL _ [] []).sat _
    rw [run_begun]
    exact leaf_v rfl
  · cases h
noncomputable def K8 : Kn := K7.addQ 17 (listC [] gTrue)
theorem K8_ok : K8.Ok := K7_ok.addQ q_begun
theorem K8_P : K8.P = Try.prog := rfl
end Go.Proofs.Ytehmikiejfbmeaa
