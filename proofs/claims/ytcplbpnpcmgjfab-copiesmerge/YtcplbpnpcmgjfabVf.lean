/- The small functions of the laws on copies. -/
import Derived.Test.YtcplbpnpcmgjfabVe
namespace Go.Proofs.Ytcplbpnpcmgjfab
open Go.RowKit
theorem run_at (t u : Int) : evV (K5.addE 25 eCopy) noL Try.f19 [.int .i64 t, .int .i64 u] [] = Out.done AE.ret { slots := [some (Value.agg { toList := [Value.int IntKind.i64 t, Value.int IntKind.i64 u] })], heap := [] } := by kernel_rfl
theorem run_block (t u : Int) (s : ByteArray) : evV K6 noL Try.f15 [.int .i64 t, .int .i64 u, .string s] [] = Out.done AE.ret { slots := [some (Value.agg { toList := [Value.int IntKind.i64 t, Value.int IntKind.i64 u, Value.string s] })], heap := [] } := by kernel_rfl
theorem run_begun  : evV K7 noL Try.f8 [] [] = Out.ask ((0 : Int) ≤ (1 : Int) ∧ (1 : Int) < (3 : Int)) (Out.done AE.ret { slots := [some (Value.bool true)], heap := [] }) := by kernel_rfl

theorem q_at : QOk (K5.addE 25 eCopy).P 19 (listC [.val, .val] gAt) := list_q (K5_ok.addE e_copy) Try.func19 rfl rfl (no_loops rfl) fun cas r _hb _hk h => by
  unfold gAt at h
  split at h
  · rename_i t u
    cases h
    refine ⟨rfl, ?_⟩
    show (evV (K5.addE 25 eCopy) noL _ [.int .i64 t, .int .i64 u] []).sat _
    rw [run_at]
    rfl
  · cases h
theorem K6_ok : K6.Ok := (K5_ok.addE e_copy).addQ q_at
theorem q_block : QOk K6.P 15 (listC [.val, .val, .val] gBlock) := list_q K6_ok Try.func15 rfl rfl (no_loops rfl) fun cas r _hb _hk h => by
  unfold gBlock at h
  split at h
  · rename_i t u s
    cases h
    refine ⟨rfl, ?_⟩
    show (evV K6 noL _ [.int .i64 t, .int .i64 u, .string s] []).sat _
    rw [run_block]
    rfl
  · cases h
theorem K7_ok : K7.Ok := K6_ok.addQ q_block
theorem q_begun : QOk K7.P 8 (listC [] gTrue) := list_q K7_ok Try.func8 rfl rfl (no_loops rfl) fun cas r _hb _hk h => by
  unfold gTrue at h
  split at h
  · cases h
    refine ⟨rfl, ?_⟩
    show (evV K7 noL _ [] []).sat _
    rw [run_begun]
    exact sat_ask ⟨by omega, by omega⟩ rfl
  · cases h
theorem K8_ok : K8.Ok := K7_ok.addQ q_begun
end Go.Proofs.Ytcplbpnpcmgjfab
