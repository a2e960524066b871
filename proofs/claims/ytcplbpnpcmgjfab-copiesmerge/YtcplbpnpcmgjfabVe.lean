/- Copies held against each other; what the laws' own small functions answer. -/
import Derived.Test.YtcplbpnpcmgjfabVd
namespace Go.Proofs.Ytcplbpnpcmgjfab
open Go.RowKit
theorem bal2_inj {s t : ByteArray} : s.toList = t.toList ↔ s = t := bal_inj
def eCopy : Value → Value → Option Bool
  | .agg ⟨[.int .i64 a, .int .i64 b, .string s]⟩, .agg ⟨[.int .i64 x, .int .i64 y, .string z]⟩ => some (decide ((((a, b), s) : Cp) = ((x, y), z)))
  | _, _ => none
theorem e_copy : EOk K5.P 25 eCopy := by
  refine ⟨by kernel_rfl, fun x y b h => ?_⟩
  unfold eCopy at h
  split at h
  · rename_i a1 a2 a3 b1 b2 b3
    cases h
    refine ⟨⟨_, rfl⟩, ⟨_, rfl⟩, fun w => ?_⟩
    show Sem.run Try.prog (Op.equal 25 (.agg #[.int .i64 a1, .int .i64 a2, .string a3]) (.agg #[.int .i64 b1, .int .i64 b2, .string b3])) w = _
    unfold Op.equal Op.maxDepth Op.equalIn
    simp [go_sem, bal2_inj]
    by_cases h : a1 = b1 <;> by_cases h2 : a2 = b2 <;> by_cases h3 : a3 = b3 <;> simp [h, h2, h3]
  · cases h
def gAt : List CA → Option Value
  | [.val (.int .i64 t), .val (.int .i64 u)] => some (.agg ⟨[.int .i64 t, .int .i64 u]⟩)
  | _ => none
def gBlock : List CA → Option Value
  | [.val (.int .i64 t), .val (.int .i64 u), .val (.string s)] => some (.agg ⟨[.int .i64 t, .int .i64 u, .string s]⟩)
  | _ => none
def gTrue : List CA → Option Value
  | [] => some (.bool true)
  | _ => none
noncomputable def K6 : Kn := (K5.addE 25 eCopy).addQ 19 (listC [.val, .val] gAt)
noncomputable def K7 : Kn := K6.addQ 15 (listC [.val, .val, .val] gBlock)
noncomputable def K8 : Kn := K7.addQ 8 (listC [] gTrue)
end Go.Proofs.Ytcplbpnpcmgjfab
