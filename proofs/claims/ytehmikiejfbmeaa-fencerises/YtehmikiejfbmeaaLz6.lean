/- Leases and fences held against each other. -/
import Derived.Test.YtehmikiejfbmeaaLz5
namespace Go.Proofs.Ytehmikiejfbmeaa
open Go.RowKit
def e_lease : Value → Value → Option Bool
  | .agg ⟨[.int .i64 a0, .int .i64 a1, .int .i64 a2]⟩, .agg ⟨[.int .i64 b0, .int .i64 b1, .int .i64 b2]⟩ => some (decide (a0 = b0 ∧ a1 = b1 ∧ a2 = b2))
  | _, _ => none
theorem e_lease_ok : EOk K6.P 23 e_lease := by
  refine ⟨by kernel_rfl, fun x y b h => ?_⟩
  unfold e_lease at h
  split at h
  · rename_i a0 a1 a2 b0 b1 b2
    cases h
    refine ⟨⟨_, rfl⟩, ⟨_, rfl⟩, fun w => ?_⟩
    show Sem.run Try.prog (Op.equal 23 (.agg #[.int .i64 a0, .int .i64 a1, .int .i64 a2]) (.agg #[.int .i64 b0, .int .i64 b1, .int .i64 b2])) w = _
    unfold Op.equal Op.maxDepth Op.equalIn
    simp [go_sem]
    by_cases h0 : a0 = b0
    rotate_left
    · simp [h0]
    simp [h0]
    by_cases h1 : a1 = b1
    rotate_left
    · simp [h1]
    simp [h1]
    by_cases h2 : a2 = b2
    rotate_left
    · simp [h2]
    simp [h2]
  · cases h
def e_fence : Value → Value → Option Bool
  | .agg ⟨[.int .i64 a0]⟩, .agg ⟨[.int .i64 b0]⟩ => some (decide (a0 = b0))
  | _, _ => none
theorem e_fence_ok : EOk K6.P 25 e_fence := by
  refine ⟨by kernel_rfl, fun x y b h => ?_⟩
  unfold e_fence at h
  split at h
  · rename_i a0 b0
    cases h
    refine ⟨⟨_, rfl⟩, ⟨_, rfl⟩, fun w => ?_⟩
    show Sem.run Try.prog (Op.equal 25 (.agg #[.int .i64 a0]) (.agg #[.int .i64 b0])) w = _
    unfold Op.equal Op.maxDepth Op.equalIn
    simp [go_sem]
    by_cases h0 : a0 = b0
    rotate_left
    · simp [h0]
    simp [h0]
  · cases h
noncomputable def K7 : Kn := (K6.addE 23 e_lease).addE 25 e_fence
theorem K7_ok : K7.Ok := (K6_ok.addE e_lease_ok).addE e_fence_ok
end Go.Proofs.Ytehmikiejfbmeaa
