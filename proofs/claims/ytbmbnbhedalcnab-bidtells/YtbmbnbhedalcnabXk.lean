/- Structs held against each other. -/
import Derived.Test.YtbmbnbhedalcnabXj
namespace Go.Proofs.Ytbmbnbhedalcnab
open Go.RowKit
-- @file xk.out
def e_stamp : Value → Value → Option Bool
  | .agg ⟨[.int .i64 a0, .int .i64 a1]⟩, .agg ⟨[.int .i64 b0, .int .i64 b1]⟩ => some (decide (a0 = b0 ∧ a1 = b1))
  | _, _ => none
theorem e_stamp_ok : EOk K15.P 23 e_stamp := by
  refine ⟨by kernel_rfl, fun x y b h => ?_⟩
  unfold e_stamp at h
  split at h
  · rename_i a0 a1 b0 b1
    cases h
    refine ⟨⟨_, rfl⟩, ⟨_, rfl⟩, fun w => ?_⟩
    show Sem.run Try.prog (Op.equal 23 (.agg #[.int .i64 a0, .int .i64 a1]) (.agg #[.int .i64 b0, .int .i64 b1])) w = _
    unfold Op.equal Op.maxDepth Op.equalIn
    simp [go_sem]
    by_cases h0 : a0 = b0
    rotate_left
    · simp [h0]
    simp [h0]
    by_cases h1 : a1 = b1
    rotate_left
    · simp [h1]
    simp [h1]
  · cases h
def e_copy : Value → Value → Option Bool
  | .agg ⟨[.int .i64 a0, .int .i64 a1, .string a2]⟩, .agg ⟨[.int .i64 b0, .int .i64 b1, .string b2]⟩ => some (decide (a0 = b0 ∧ a1 = b1 ∧ a2 = b2))
  | _, _ => none
theorem e_copy_ok : EOk K15.P 25 e_copy := by
  refine ⟨by kernel_rfl, fun x y b h => ?_⟩
  unfold e_copy at h
  split at h
  · rename_i a0 a1 a2 b0 b1 b2
    cases h
    refine ⟨⟨_, rfl⟩, ⟨_, rfl⟩, fun w => ?_⟩
    show Sem.run Try.prog (Op.equal 25 (.agg #[.int .i64 a0, .int .i64 a1, .string a2]) (.agg #[.int .i64 b0, .int .i64 b1, .string b2])) w = _
    unfold Op.equal Op.maxDepth Op.equalIn
    simp [go_sem, bal_inj]
    by_cases h0 : a0 = b0
    rotate_left
    · simp [h0]
    simp [h0]
    by_cases h1 : a1 = b1
    rotate_left
    · simp [h1]
    simp [h1]
    by_cases h2 : a2 = b2
    rotate_left
    · simp [h2]
    simp [h2]
  · cases h
def e_seat : Value → Value → Option Bool
  | .agg ⟨[.int .i64 a0, .int .i64 a1, .int .i64 a2, .int .i64 a3, .string a4]⟩, .agg ⟨[.int .i64 b0, .int .i64 b1, .int .i64 b2, .int .i64 b3, .string b4]⟩ => some (decide (a0 = b0 ∧ a1 = b1 ∧ a2 = b2 ∧ a3 = b3 ∧ a4 = b4))
  | _, _ => none
theorem e_seat_ok : EOk K15.P 27 e_seat := by
  refine ⟨by kernel_rfl, fun x y b h => ?_⟩
  unfold e_seat at h
  split at h
  · rename_i a0 a1 a2 a3 a4 b0 b1 b2 b3 b4
    cases h
    refine ⟨⟨_, rfl⟩, ⟨_, rfl⟩, fun w => ?_⟩
    show Sem.run Try.prog (Op.equal 27 (.agg #[.int .i64 a0, .int .i64 a1, .int .i64 a2, .int .i64 a3, .string a4]) (.agg #[.int .i64 b0, .int .i64 b1, .int .i64 b2, .int .i64 b3, .string b4])) w = _
    unfold Op.equal Op.maxDepth Op.equalIn
    simp [go_sem, bal_inj]
    by_cases h0 : a0 = b0
    rotate_left
    · simp [h0]
    simp [h0]
    by_cases h1 : a1 = b1
    rotate_left
    · simp [h1]
    simp [h1]
    by_cases h2 : a2 = b2
    rotate_left
    · simp [h2]
    simp [h2]
    by_cases h3 : a3 = b3
    rotate_left
    · simp [h3]
    simp [h3]
    by_cases h4 : a4 = b4
    rotate_left
    · simp [h4]
    simp [h4]
  · cases h
def e_vote : Value → Value → Option Bool
  | .agg ⟨[.int .i64 a0, .int .i64 a1, .int .i64 a2, .int .i64 a3, .int .i64 a4, .string a5]⟩, .agg ⟨[.int .i64 b0, .int .i64 b1, .int .i64 b2, .int .i64 b3, .int .i64 b4, .string b5]⟩ => some (decide (a0 = b0 ∧ a1 = b1 ∧ a2 = b2 ∧ a3 = b3 ∧ a4 = b4 ∧ a5 = b5))
  | _, _ => none
theorem e_vote_ok : EOk K15.P 29 e_vote := by
  refine ⟨by kernel_rfl, fun x y b h => ?_⟩
  unfold e_vote at h
  split at h
  · rename_i a0 a1 a2 a3 a4 a5 b0 b1 b2 b3 b4 b5
    cases h
    refine ⟨⟨_, rfl⟩, ⟨_, rfl⟩, fun w => ?_⟩
    show Sem.run Try.prog (Op.equal 29 (.agg #[.int .i64 a0, .int .i64 a1, .int .i64 a2, .int .i64 a3, .int .i64 a4, .string a5]) (.agg #[.int .i64 b0, .int .i64 b1, .int .i64 b2, .int .i64 b3, .int .i64 b4, .string b5])) w = _
    unfold Op.equal Op.maxDepth Op.equalIn
    simp [go_sem, bal_inj]
    by_cases h0 : a0 = b0
    rotate_left
    · simp [h0]
    simp [h0]
    by_cases h1 : a1 = b1
    rotate_left
    · simp [h1]
    simp [h1]
    by_cases h2 : a2 = b2
    rotate_left
    · simp [h2]
    simp [h2]
    by_cases h3 : a3 = b3
    rotate_left
    · simp [h3]
    simp [h3]
    by_cases h4 : a4 = b4
    rotate_left
    · simp [h4]
    simp [h4]
    by_cases h5 : a5 = b5
    rotate_left
    · simp [h5]
    simp [h5]
  · cases h
def e_bid : Value → Value → Option Bool
  | .agg ⟨[.int .i64 a0, .int .i64 a1, .string a2, .string a3, .int .i64 a4, .int .i64 a5, .string a6, .int .u64 a7]⟩, .agg ⟨[.int .i64 b0, .int .i64 b1, .string b2, .string b3, .int .i64 b4, .int .i64 b5, .string b6, .int .u64 b7]⟩ => some (decide (a0 = b0 ∧ a1 = b1 ∧ a2 = b2 ∧ a3 = b3 ∧ a4 = b4 ∧ a5 = b5 ∧ a6 = b6 ∧ a7 = b7))
  | _, _ => none
theorem e_bid_ok : EOk K15.P 44 e_bid := by
  refine ⟨by kernel_rfl, fun x y b h => ?_⟩
  unfold e_bid at h
  split at h
  · rename_i a0 a1 a2 a3 a4 a5 a6 a7 b0 b1 b2 b3 b4 b5 b6 b7
    cases h
    refine ⟨⟨_, rfl⟩, ⟨_, rfl⟩, fun w => ?_⟩
    show Sem.run Try.prog (Op.equal 44 (.agg #[.int .i64 a0, .int .i64 a1, .string a2, .string a3, .int .i64 a4, .int .i64 a5, .string a6, .int .u64 a7]) (.agg #[.int .i64 b0, .int .i64 b1, .string b2, .string b3, .int .i64 b4, .int .i64 b5, .string b6, .int .u64 b7])) w = _
    unfold Op.equal Op.maxDepth Op.equalIn
    simp [go_sem, bal_inj]
    by_cases h0 : a0 = b0
    rotate_left
    · simp [h0]
    simp [h0]
    by_cases h1 : a1 = b1
    rotate_left
    · simp [h1]
    simp [h1]
    by_cases h2 : a2 = b2
    rotate_left
    · simp [h2]
    simp [h2]
    by_cases h3 : a3 = b3
    rotate_left
    · simp [h3]
    simp [h3]
    by_cases h4 : a4 = b4
    rotate_left
    · simp [h4]
    simp [h4]
    by_cases h5 : a5 = b5
    rotate_left
    · simp [h5]
    simp [h5]
    by_cases h6 : a6 = b6
    rotate_left
    · simp [h6]
    simp [h6]
    by_cases h7 : a7 = b7
    rotate_left
    · simp [h7]
    simp [h7]
  · cases h
noncomputable def K16 : Kn := ((((K15.addE 23 e_stamp).addE 25 e_copy).addE 27 e_seat).addE 29 e_vote).addE 44 e_bid
theorem K16_ok : K16.Ok := ((((K15_ok.addE e_stamp_ok).addE e_copy_ok).addE e_seat_ok).addE e_vote_ok).addE e_bid_ok
-- @end
end Go.Proofs.Ytbmbnbhedalcnab
