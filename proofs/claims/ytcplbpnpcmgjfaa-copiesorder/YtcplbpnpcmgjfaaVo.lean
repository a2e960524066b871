/- Stamps held against each other. -/
import Derived.Test.YtcplbpnpcmgjfaaVf
namespace Go.Proofs.Ytcplbpnpcmgjfaa
open Go.RowKit
def eStamp : Value → Value → Option Bool
  | .agg ⟨[.int .i64 a, .int .i64 b]⟩, .agg ⟨[.int .i64 x, .int .i64 y]⟩ => some (decide (((a, b) : St) = (x, y)))
  | _, _ => none
theorem e_stamp : EOk K8.P 23 eStamp := by
  refine ⟨by kernel_rfl, fun x y b h => ?_⟩
  unfold eStamp at h
  split at h
  · rename_i a1 a2 b1 b2
    cases h
    refine ⟨⟨_, rfl⟩, ⟨_, rfl⟩, fun w => ?_⟩
    show Sem.run Try.prog (Op.equal 23 (.agg #[.int .i64 a1, .int .i64 a2]) (.agg #[.int .i64 b1, .int .i64 b2])) w = _
    unfold Op.equal Op.maxDepth Op.equalIn
    simp [go_sem]
    by_cases h : a1 = b1 <;> by_cases h2 : a2 = b2 <;> simp [h, h2]
  · cases h
noncomputable def K8s : Kn := K8.addE 23 eStamp
theorem K8s_ok : K8s.Ok := K8_ok.addE e_stamp
end Go.Proofs.Ytcplbpnpcmgjfaa
