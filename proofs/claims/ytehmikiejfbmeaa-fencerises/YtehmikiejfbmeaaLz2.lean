/- Moments, the reference's check and fence: contracts. -/
import Derived.Test.YtehmikiejfbmeaaLz1
namespace Go.Proofs.Ytehmikiejfbmeaa
open Go.RowKit
theorem run_istime (n : Int) : evV K1 noL Try.f23 [.int .i64 n] [] = Out.done AE.ret { slots := [some (Value.bool (x_from n (0 : Int) (1000000 : Int)))], heap := [] } := by kernel_rfl
def x_istime (n : Int) : Bool := (x_from n (0 : Int) (1000000 : Int))
def g_istime : List CA → Option Value
  | [.val (.int .i64 n)] => some (.bool (x_istime n))
  | _ => none
theorem q_istime : QOk K1.P 23 (listC [.one .val] g_istime) := list_q K1_ok Try.func23 rfl rfl (no_loops rfl) fun cas r hb hk h => by
  unfold g_istime at h
  split at h
  · rename_i n
    cases h
    refine ⟨rfl, ?_⟩
    show (evV K1 noL _ [.int .i64 n] []).sat _
    rw [run_istime]
    exact leaf_v rfl
  · cases h
theorem run_rlc (h : Int) (t : Int) (k : Int) : evV K1 noL Try.f19 [.agg ⟨[.int .i64 h, .int .i64 t, .int .i64 k]⟩] [] = tst (decide (h < (0 : Int))) (Out.done AE.ret { slots := [some (Value.int IntKind.i64 (3 : Int))], heap := [] }) (tst (decide (h > (1000 : Int))) (Out.done AE.ret { slots := [some (Value.int IntKind.i64 (3 : Int))], heap := [] }) (tst (x_notime t) (Out.done AE.ret { slots := [some (Value.int IntKind.i64 (3 : Int))], heap := [] }) (tst (x_notime k) (Out.done AE.ret { slots := [some (Value.int IntKind.i64 (3 : Int))], heap := [] }) (Out.done AE.ret { slots := [some (Value.int IntKind.i64 (0 : Int))], heap := [] })))) := by kernel_rfl
def x_rlc (h : Int) (t : Int) (k : Int) : Int := (bif decide (h < (0 : Int)) then (3 : Int) else (bif decide (h > (1000 : Int)) then (3 : Int) else (bif x_notime t then (3 : Int) else (bif x_notime k then (3 : Int) else (0 : Int)))))
def g_rlc : List CA → Option Value
  | [.val (.agg ⟨[.int .i64 h, .int .i64 t, .int .i64 k]⟩)] => some (.int .i64 (x_rlc h t k))
  | _ => none
theorem q_rlc : QOk K1.P 19 (listC [.one .val] g_rlc) := list_q K1_ok Try.func19 rfl rfl (no_loops rfl) fun cas r hb hk h => by
  unfold g_rlc at h
  split at h
  · rename_i h t k
    cases h
    refine ⟨rfl, ?_⟩
    show (evV K1 noL _ [.agg ⟨[.int .i64 h, .int .i64 t, .int .i64 k]⟩] []).sat _
    rw [run_rlc]
    exact sat_tst (fun h0 => leaf_v (by simp only [x_rlc, h0, cond_true])) (fun h0 => sat_tst (fun h1 => leaf_v (by simp only [x_rlc, h0, h1, cond_true, cond_false])) (fun h1 => sat_tst (fun h2 => leaf_v (by simp only [x_rlc, h0, h1, h2, cond_true, cond_false])) (fun h2 => sat_tst (fun h3 => leaf_v (by simp only [x_rlc, h0, h1, h2, h3, cond_true, cond_false])) (fun h3 => leaf_v (by simp only [x_rlc, h0, h1, h2, h3, cond_false])))))
  · cases h
theorem run_rfp (s : Int) (k : Int) : evV K1 noL Try.f16 [.agg ⟨[.int .i64 s]⟩, .int .i64 k] [] = tst (x_notime s) (Out.done AE.ret { slots := [some (Value.tuple { toList := [Value.agg { toList := [Value.int IntKind.i64 (0 : Int)] }, Value.int IntKind.i64 (3 : Int)] })], heap := [] }) (tst (x_notime k) (Out.done AE.ret { slots := [some (Value.tuple { toList := [Value.agg { toList := [Value.int IntKind.i64 (0 : Int)] }, Value.int IntKind.i64 (3 : Int)] })], heap := [] }) (tst (decide (s > k)) (Out.done AE.ret { slots := [some (Value.tuple { toList := [Value.agg { toList := [Value.int IntKind.i64 (0 : Int)] }, Value.int IntKind.i64 (4 : Int)] })], heap := [] }) (Out.done AE.ret { slots := [some (Value.tuple { toList := [Value.agg { toList := [Value.int IntKind.i64 k] }, Value.int IntKind.i64 (0 : Int)] })], heap := [] }))) := by kernel_rfl
def x0_rfp (s : Int) (k : Int) : Int := (bif x_notime s then (0 : Int) else (bif x_notime k then (0 : Int) else (bif decide (s > k) then (0 : Int) else (k))))
def x1_rfp (s : Int) (k : Int) : Int := (bif x_notime s then (3 : Int) else (bif x_notime k then (3 : Int) else (bif decide (s > k) then (4 : Int) else (0 : Int))))
def g_rfp : List CA → Option Value
  | [.val (.agg ⟨[.int .i64 s]⟩), .val (.int .i64 k)] => some (.tuple ⟨[.agg ⟨[.int .i64 (x0_rfp s k)]⟩, .int .i64 (x1_rfp s k)]⟩)
  | _ => none
theorem q_rfp : QOk K1.P 16 (listC [.one .val, .one .val] g_rfp) := list_q K1_ok Try.func16 rfl rfl (no_loops rfl) fun cas r hb hk h => by
  unfold g_rfp at h
  split at h
  · rename_i s k
    cases h
    refine ⟨rfl, ?_⟩
    show (evV K1 noL _ [.agg ⟨[.int .i64 s]⟩, .int .i64 k] []).sat _
    rw [run_rfp]
    exact sat_tst (fun h0 => leaf_v (by simp only [x0_rfp, x1_rfp, h0, cond_true])) (fun h0 => sat_tst (fun h1 => leaf_v (by simp only [x0_rfp, x1_rfp, h0, h1, cond_true, cond_false])) (fun h1 => sat_tst (fun h2 => leaf_v (by simp only [x0_rfp, x1_rfp, h0, h1, h2, cond_true, cond_false])) (fun h2 => leaf_v (by simp only [x0_rfp, x1_rfp, h0, h1, h2, cond_false]))))
  · cases h
noncomputable def K2 : Kn := ((K1.addQ 23 (listC [.one .val] g_istime)).addQ 19 (listC [.one .val] g_rlc)).addQ 16 (listC [.one .val, .one .val] g_rfp)
theorem K2_ok : K2.Ok := ((K1_ok.addQ q_istime).addQ q_rlc).addQ q_rfp
end Go.Proofs.Ytehmikiejfbmeaa
