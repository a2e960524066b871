/- Bounds: contracts. -/
import Derived.Test.YtehmikiejfbmeaaLz0
namespace Go.Proofs.Ytehmikiejfbmeaa
open Go.RowKit
theorem run_from (n : Int) (a : Int) (b : Int) : evV K0 noL Try.f22 [.int .i64 n, .int .i64 a, .int .i64 b] [] = tst (decide (a ≤ n)) (Out.done AE.ret { slots := [some (Value.bool (decide (n ≤ b)))], heap := [] }) (Out.done AE.ret { slots := [some (Value.bool false)], heap := [] }) := by kernel_rfl
def x_from (n : Int) (a : Int) (b : Int) : Bool := (bif decide (a ≤ n) then (decide (n ≤ b)) else (false))
def g_from : List CA → Option Value
  | [.val (.int .i64 n), .val (.int .i64 a), .val (.int .i64 b)] => some (.bool (x_from n a b))
  | _ => none
theorem q_from : QOk K0.P 22 (listC [.one .val, .one .val, .one .val] g_from) := list_q K0_ok Try.func22 rfl rfl (no_loops rfl) fun cas r hb hk h => by
  unfold g_from at h
  split at h
  · rename_i n a b
    cases h
    refine ⟨rfl, ?_⟩
    show (evV K0 noL _ [.int .i64 n, .int .i64 a, .int .i64 b] []).sat _
    rw [run_from]
    exact sat_tst (fun h0 => leaf_v (by simp only [x_from, h0, cond_true])) (fun h0 => leaf_v (by simp only [x_from, h0, cond_false]))
  · cases h
theorem run_notime (n : Int) : evV K0 noL Try.f24 [.int .i64 n] [] = tst (decide (n < (0 : Int))) (Out.done AE.ret { slots := [some (Value.bool true)], heap := [] }) (Out.done AE.ret { slots := [some (Value.bool (decide (n > (1000000 : Int))))], heap := [] }) := by kernel_rfl
def x_notime (n : Int) : Bool := (bif decide (n < (0 : Int)) then (true) else (decide (n > (1000000 : Int))))
def g_notime : List CA → Option Value
  | [.val (.int .i64 n)] => some (.bool (x_notime n))
  | _ => none
theorem q_notime : QOk K0.P 24 (listC [.one .val] g_notime) := list_q K0_ok Try.func24 rfl rfl (no_loops rfl) fun cas r hb hk h => by
  unfold g_notime at h
  split at h
  · rename_i n
    cases h
    refine ⟨rfl, ?_⟩
    show (evV K0 noL _ [.int .i64 n] []).sat _
    rw [run_notime]
    exact sat_tst (fun h0 => leaf_v (by simp only [x_notime, h0, cond_true])) (fun h0 => leaf_v (by simp only [x_notime, h0, cond_false]))
  · cases h
noncomputable def K1 : Kn := (K0.addQ 22 (listC [.one .val, .one .val, .one .val] g_from)).addQ 24 (listC [.one .val] g_notime)
theorem K1_ok : K1.Ok := (K0_ok.addQ q_from).addQ q_notime
end Go.Proofs.Ytehmikiejfbmeaa
