/- Check, Pass, who holds it by the reference: contracts. -/
import Derived.Test.YtehmikiejfbmeaaLz2
namespace Go.Proofs.Ytehmikiejfbmeaa
open Go.RowKit
theorem run_lc (h : Int) (t : Int) (k : Int) : evV K2 noL Try.f18 [.agg ⟨[.int .i64 h, .int .i64 t, .int .i64 k]⟩] [] = tst (!x_from h (0 : Int) (1000 : Int)) (Out.done AE.ret { slots := [some (Value.int IntKind.i64 (3 : Int))], heap := [] }) (tst (!x_istime t) (Out.done AE.ret { slots := [some (Value.int IntKind.i64 (3 : Int))], heap := [] }) (tst (!x_istime k) (Out.done AE.ret { slots := [some (Value.int IntKind.i64 (3 : Int))], heap := [] }) (Out.done AE.ret { slots := [some (Value.int IntKind.i64 (0 : Int))], heap := [] }))) := by kernel_rfl
def x_lc (h : Int) (t : Int) (k : Int) : Int := (bif !x_from h (0 : Int) (1000 : Int) then (3 : Int) else (bif !x_istime t then (3 : Int) else (bif !x_istime k then (3 : Int) else (0 : Int))))
def g_lc : List CA → Option Value
  | [.val (.agg ⟨[.int .i64 h, .int .i64 t, .int .i64 k]⟩)] => some (.int .i64 (x_lc h t k))
  | _ => none
theorem q_lc : QOk K2.P 18 (listC [.one .val] g_lc) := list_q K2_ok Try.func18 rfl rfl (no_loops rfl) fun cas r hb hk h => by
  unfold g_lc at h
  split at h
  · rename_i h t k
    cases h
    refine ⟨rfl, ?_⟩
    show (evV K2 noL _ [.agg ⟨[.int .i64 h, .int .i64 t, .int .i64 k]⟩] []).sat _
    rw [run_lc]
    exact sat_tst (fun h0 => leaf_v (by simp only [x_lc, h0, cond_true])) (fun h0 => sat_tst (fun h1 => leaf_v (by simp only [x_lc, h0, h1, cond_true, cond_false])) (fun h1 => sat_tst (fun h2 => leaf_v (by simp only [x_lc, h0, h1, h2, cond_true, cond_false])) (fun h2 => leaf_v (by simp only [x_lc, h0, h1, h2, cond_false]))))
  · cases h
theorem run_rheld (h : Int) (t : Int) (k : Int) (now : Int) : evV K2 noL Try.f13 [.agg ⟨[.int .i64 h, .int .i64 t, .int .i64 k]⟩, .int .i64 now] [] = tst (x_rlc h t k != (0 : Int)) (Out.done AE.ret { slots := [some (Value.tuple { toList := [Value.int IntKind.i64 (0 : Int), Value.int IntKind.i64 (3 : Int)] })], heap := [] }) (tst (x_notime now) (Out.done AE.ret { slots := [some (Value.tuple { toList := [Value.int IntKind.i64 (0 : Int), Value.int IntKind.i64 (3 : Int)] })], heap := [] }) (tst (decide (now ≥ t)) (Out.done AE.ret { slots := [some (Value.tuple { toList := [Value.int IntKind.i64 (0 : Int), Value.int IntKind.i64 (0 : Int)] })], heap := [] }) (Out.done AE.ret { slots := [some (Value.tuple { toList := [Value.int IntKind.i64 h, Value.int IntKind.i64 (0 : Int)] })], heap := [] }))) := by kernel_rfl
def x0_rheld (h : Int) (t : Int) (k : Int) (now : Int) : Int := (bif x_rlc h t k != (0 : Int) then (0 : Int) else (bif x_notime now then (0 : Int) else (bif decide (now ≥ t) then (0 : Int) else (h))))
def x1_rheld (h : Int) (t : Int) (k : Int) (now : Int) : Int := (bif x_rlc h t k != (0 : Int) then (3 : Int) else (bif x_notime now then (3 : Int) else (bif decide (now ≥ t) then (0 : Int) else (0 : Int))))
def g_rheld : List CA → Option Value
  | [.val (.agg ⟨[.int .i64 h, .int .i64 t, .int .i64 k]⟩), .val (.int .i64 now)] => some (.tuple ⟨[.int .i64 (x0_rheld h t k now), .int .i64 (x1_rheld h t k now)]⟩)
  | _ => none
theorem q_rheld : QOk K2.P 13 (listC [.one .val, .one .val] g_rheld) := list_q K2_ok Try.func13 rfl rfl (no_loops rfl) fun cas r hb hk h => by
  unfold g_rheld at h
  split at h
  · rename_i h t k now
    cases h
    refine ⟨rfl, ?_⟩
    show (evV K2 noL _ [.agg ⟨[.int .i64 h, .int .i64 t, .int .i64 k]⟩, .int .i64 now] []).sat _
    rw [run_rheld]
    exact sat_tst (fun h0 => leaf_v (by simp only [x0_rheld, x1_rheld, h0, cond_true])) (fun h0 => sat_tst (fun h1 => leaf_v (by simp only [x0_rheld, x1_rheld, h0, h1, cond_true, cond_false])) (fun h1 => sat_tst (fun h2 => leaf_v (by simp only [x0_rheld, x1_rheld, h0, h1, h2, cond_true, cond_false])) (fun h2 => leaf_v (by simp only [x0_rheld, x1_rheld, h0, h1, h2, cond_false]))))
  · cases h
theorem run_fp (s : Int) (k : Int) : evV K2 noL Try.f12 [.agg ⟨[.int .i64 s]⟩, .int .i64 k] [] = tst (!x_istime s) (Out.done AE.ret { slots := [some (Value.tuple { toList := [Value.agg { toList := [Value.int IntKind.i64 (0 : Int)] }, Value.int IntKind.i64 (3 : Int)] })], heap := [] }) (tst (!x_istime k) (Out.done AE.ret { slots := [some (Value.tuple { toList := [Value.agg { toList := [Value.int IntKind.i64 (0 : Int)] }, Value.int IntKind.i64 (3 : Int)] })], heap := [] }) (tst (decide (k < s)) (Out.done AE.ret { slots := [some (Value.tuple { toList := [Value.agg { toList := [Value.int IntKind.i64 (0 : Int)] }, Value.int IntKind.i64 (4 : Int)] })], heap := [] }) (Out.done AE.ret { slots := [some (Value.tuple { toList := [Value.agg { toList := [Value.int IntKind.i64 k] }, Value.int IntKind.i64 (0 : Int)] })], heap := [] }))) := by kernel_rfl
def x0_fp (s : Int) (k : Int) : Int := (bif !x_istime s then (0 : Int) else (bif !x_istime k then (0 : Int) else (bif decide (k < s) then (0 : Int) else (k))))
def x1_fp (s : Int) (k : Int) : Int := (bif !x_istime s then (3 : Int) else (bif !x_istime k then (3 : Int) else (bif decide (k < s) then (4 : Int) else (0 : Int))))
def g_fp : List CA → Option Value
  | [.val (.agg ⟨[.int .i64 s]⟩), .val (.int .i64 k)] => some (.tuple ⟨[.agg ⟨[.int .i64 (x0_fp s k)]⟩, .int .i64 (x1_fp s k)]⟩)
  | _ => none
theorem q_fp : QOk K2.P 12 (listC [.one .val, .one .val] g_fp) := list_q K2_ok Try.func12 rfl rfl (no_loops rfl) fun cas r hb hk h => by
  unfold g_fp at h
  split at h
  · rename_i s k
    cases h
    refine ⟨rfl, ?_⟩
    show (evV K2 noL _ [.agg ⟨[.int .i64 s]⟩, .int .i64 k] []).sat _
    rw [run_fp]
    exact sat_tst (fun h0 => leaf_v (by simp only [x0_fp, x1_fp, h0, cond_true])) (fun h0 => sat_tst (fun h1 => leaf_v (by simp only [x0_fp, x1_fp, h0, h1, cond_true, cond_false])) (fun h1 => sat_tst (fun h2 => leaf_v (by simp only [x0_fp, x1_fp, h0, h1, h2, cond_true, cond_false])) (fun h2 => leaf_v (by simp only [x0_fp, x1_fp, h0, h1, h2, cond_false]))))
  · cases h
noncomputable def K3 : Kn := ((K2.addQ 18 (listC [.one .val] g_lc)).addQ 13 (listC [.one .val, .one .val] g_rheld)).addQ 12 (listC [.one .val, .one .val] g_fp)
theorem K3_ok : K3.Ok := ((K2_ok.addQ q_lc).addQ q_rheld).addQ q_fp
end Go.Proofs.Ytehmikiejfbmeaa
