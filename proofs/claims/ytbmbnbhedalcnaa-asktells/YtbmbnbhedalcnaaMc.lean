/- Majorities, stamps, kinds: contracts. -/
import Derived.Test.YtbmbnbhedalcnaaMb
namespace Go.Proofs.Ytbmbnbhedalcnaa
open Go.RowKit
-- @file mc.out
theorem run_enough (m : Nat) (g : Nat → List Value) (need : Int) (s : Int) : evV K12 noL Try.f22 [.slice (some ⟨0, 0, some 0⟩) m m, .int .i64 need, .int .u64 s] [.recs wtK m g] = Out.ask (m ≤ m ∧ m ≤ (140737488355328 : Nat)) (tst (qE (wsOf m fun j => g j) need != (0 : Int)) (Out.done AE.ret { slots := [some (Value.tuple { toList := [Value.bool false, Value.int IntKind.i64 (qE (wsOf m fun j => g j) need)] })], heap := [] }) (Out.ask (m ≤ m ∧ m ≤ (140737488355328 : Nat)) (Out.done AE.ret { slots := [some (Value.tuple { toList := [Value.bool (decide (sV (wsOf m fun j => g (j + (0 : Nat))) s ≥ need)), Value.int IntKind.i64 (sE (wsOf m fun j => g j) s)] })], heap := [] }))) := by kernel_rfl
def x0_enough (m : Nat) (g : Nat → List Value) (need : Int) (s : Int) : Bool := (bif qE (wsOf m fun j => g j) need != (0 : Int) then (false) else (decide (sV (wsOf m fun j => g (j + (0 : Nat))) s ≥ need)))
def x1_enough (m : Nat) (g : Nat → List Value) (need : Int) (s : Int) : Int := (bif qE (wsOf m fun j => g j) need != (0 : Int) then (qE (wsOf m fun j => g j) need) else (sE (wsOf m fun j => g j) s))
def g_enough : List CA → Option Value
  | [.rows _ m g, .val (.int .i64 need), .val (.int .u64 s)] => some (.tuple ⟨[.bool (x0_enough m g need s), .int .i64 (x1_enough m g need s)]⟩)
  | _ => none
theorem q_enough : QOk K12.P 22 (listC [.one (.rows wtK), .one .val, .one .val] g_enough) := list_q K12_ok Try.func22 rfl rfl (no_loops rfl) fun cas r hb hk h => by
  unfold g_enough at h
  split at h
  · rename_i sh0 m g need s
    have e0 := kind_rows (i := 0) hk rfl rfl
    have hbm := bnd_rows (i := 0) hb rfl
    subst e0
    cases h
    refine ⟨rfl, ?_⟩
    show (evV K12 noL _ [.slice (some ⟨0, 0, some 0⟩) m m, .int .i64 need, .int .u64 s] [.recs wtK m g]).sat _
    rw [run_enough]
    exact sat_ask (by first | omega | exact ⟨Nat.le_refl _, by assumption⟩ | exact ⟨rfl, rfl⟩ | simp_all) (sat_tst (fun h0 => leaf_v (by simp only [x0_enough, x1_enough, h0, cond_true])) (fun h0 => sat_ask (by first | omega | exact ⟨Nat.le_refl _, by assumption⟩ | exact ⟨rfl, rfl⟩ | simp_all) (leaf_v (by simp only [x0_enough, x1_enough, h0, cond_false]))))
  · cases h
theorem run_rsc (t : Int) (u : Int) : evV K12 noL Try.f59 [.agg ⟨[.int .i64 t, .int .i64 u]⟩] [] = tst (decide (t < (0 : Int))) (Out.done AE.ret { slots := [some (Value.int IntKind.i64 (3 : Int))], heap := [] }) (tst (decide (t > (1000000 : Int))) (Out.done AE.ret { slots := [some (Value.int IntKind.i64 (3 : Int))], heap := [] }) (tst (decide (u < (0 : Int))) (Out.done AE.ret { slots := [some (Value.int IntKind.i64 (3 : Int))], heap := [] }) (tst (decide (u > (31 : Int))) (Out.done AE.ret { slots := [some (Value.int IntKind.i64 (3 : Int))], heap := [] }) (Out.done AE.ret { slots := [some (Value.int IntKind.i64 (0 : Int))], heap := [] })))) := by kernel_rfl
def x_rsc (t : Int) (u : Int) : Int := (bif decide (t < (0 : Int)) then (3 : Int) else (bif decide (t > (1000000 : Int)) then (3 : Int) else (bif decide (u < (0 : Int)) then (3 : Int) else (bif decide (u > (31 : Int)) then (3 : Int) else (0 : Int)))))
def g_rsc : List CA → Option Value
  | [.val (.agg ⟨[.int .i64 t, .int .i64 u]⟩)] => some (.int .i64 (x_rsc t u))
  | _ => none
theorem q_rsc : QOk K12.P 59 (listC [.one .val] g_rsc) := list_q K12_ok Try.func59 rfl rfl (no_loops rfl) fun cas r hb hk h => by
  unfold g_rsc at h
  split at h
  · rename_i t u
    cases h
    refine ⟨rfl, ?_⟩
    show (evV K12 noL _ [.agg ⟨[.int .i64 t, .int .i64 u]⟩] []).sat _
    rw [run_rsc]
    exact sat_tst (fun h0 => leaf_v (by simp only [x_rsc, h0, cond_true])) (fun h0 => sat_tst (fun h1 => leaf_v (by simp only [x_rsc, h0, h1, cond_true, cond_false])) (fun h1 => sat_tst (fun h2 => leaf_v (by simp only [x_rsc, h0, h1, h2, cond_true, cond_false])) (fun h2 => sat_tst (fun h3 => leaf_v (by simp only [x_rsc, h0, h1, h2, h3, cond_true, cond_false])) (fun h3 => leaf_v (by simp only [x_rsc, h0, h1, h2, h3, cond_false])))))
  · cases h
theorem run_rsl (t : Int) (u : Int) (x : Int) (y : Int) : evV K12 noL Try.f54 [.agg ⟨[.int .i64 t, .int .i64 u]⟩, .agg ⟨[.int .i64 x, .int .i64 y]⟩] [] = tst (t == x) (Out.done AE.ret { slots := [some (Value.bool (decide (u < y)))], heap := [] }) (Out.done AE.ret { slots := [some (Value.bool (decide (t < x)))], heap := [] }) := by kernel_rfl
def x_rsl (t : Int) (u : Int) (x : Int) (y : Int) : Bool := (bif t == x then (decide (u < y)) else (decide (t < x)))
def g_rsl : List CA → Option Value
  | [.val (.agg ⟨[.int .i64 t, .int .i64 u]⟩), .val (.agg ⟨[.int .i64 x, .int .i64 y]⟩)] => some (.bool (x_rsl t u x y))
  | _ => none
theorem q_rsl : QOk K12.P 54 (listC [.one .val, .one .val] g_rsl) := list_q K12_ok Try.func54 rfl rfl (no_loops rfl) fun cas r hb hk h => by
  unfold g_rsl at h
  split at h
  · rename_i t u x y
    cases h
    refine ⟨rfl, ?_⟩
    show (evV K12 noL _ [.agg ⟨[.int .i64 t, .int .i64 u]⟩, .agg ⟨[.int .i64 x, .int .i64 y]⟩] []).sat _
    rw [run_rsl]
    exact sat_tst (fun h0 => leaf_v (by simp only [x_rsl, h0, cond_true])) (fun h0 => leaf_v (by simp only [x_rsl, h0, cond_false]))
  · cases h
theorem run_at (t : Int) (u : Int) : evV K12 noL Try.f24 [.int .i64 t, .int .i64 u] [] = Out.done AE.ret { slots := [some (Value.agg { toList := [Value.int IntKind.i64 t, Value.int IntKind.i64 u] })], heap := [] } := by kernel_rfl
def x0_at (t : Int) : Int := (t)
def x1_at (u : Int) : Int := (u)
def g_at : List CA → Option Value
  | [.val (.int .i64 t), .val (.int .i64 u)] => some (.agg ⟨[.int .i64 (x0_at t), .int .i64 (x1_at u)]⟩)
  | _ => none
theorem q_at : QOk K12.P 24 (listC [.one .val, .one .val] g_at) := list_q K12_ok Try.func24 rfl rfl (no_loops rfl) fun cas r hb hk h => by
  unfold g_at at h
  split at h
  · rename_i t u
    cases h
    refine ⟨rfl, ?_⟩
    show (evV K12 noL _ [.int .i64 t, .int .i64 u] []).sat _
    rw [run_at]
    exact leaf_v rfl
  · cases h
theorem run_next (m : Nat) (g : Nat → List Value) (who : Int) : evV K12 noL Try.f25 [.slice (some ⟨0, 0, some 0⟩) m m, .int .i64 who] [.recs stK m g] = Out.ask (m ≤ m ∧ m ≤ (140737488355328 : Nat)) (tst ((maxE m fun j => g j) != (0 : Int)) (Out.done AE.ret { slots := [some (Value.tuple { toList := [Value.agg { toList := [Value.int IntKind.i64 (0 : Int), Value.int IntKind.i64 (0 : Int)] }, Value.int IntKind.i64 (maxE m fun j => g j)] })], heap := [] }) (tst (sck (IntKind.wrap IntKind.i64 ((maxV m fun j => g j).1 + (1 : Int)), who) != (0 : Int)) (Out.done AE.ret { slots := [some (Value.tuple { toList := [Value.agg { toList := [Value.int IntKind.i64 (0 : Int), Value.int IntKind.i64 (0 : Int)] }, Value.int IntKind.i64 (sck (IntKind.wrap IntKind.i64 ((maxV m fun j => g j).1 + (1 : Int)), who))] })], heap := [] }) (Out.done AE.ret { slots := [some (Value.tuple { toList := [Value.agg { toList := [Value.int IntKind.i64 (IntKind.wrap IntKind.i64 ((maxV m fun j => g j).1 + (1 : Int))), Value.int IntKind.i64 who] }, Value.int IntKind.i64 (0 : Int)] })], heap := [] }))) := by kernel_rfl
def x0_next (m : Nat) (g : Nat → List Value) (who : Int) : Int := (bif (maxE m fun j => g j) != (0 : Int) then (0 : Int) else (bif sck (IntKind.wrap IntKind.i64 ((maxV m fun j => g j).1 + (1 : Int)), who) != (0 : Int) then (0 : Int) else (IntKind.wrap IntKind.i64 ((maxV m fun j => g j).1 + (1 : Int)))))
def x1_next (m : Nat) (g : Nat → List Value) (who : Int) : Int := (bif (maxE m fun j => g j) != (0 : Int) then (0 : Int) else (bif sck (IntKind.wrap IntKind.i64 ((maxV m fun j => g j).1 + (1 : Int)), who) != (0 : Int) then (0 : Int) else (who)))
def x2_next (m : Nat) (g : Nat → List Value) (who : Int) : Int := (bif (maxE m fun j => g j) != (0 : Int) then (maxE m fun j => g j) else (bif sck (IntKind.wrap IntKind.i64 ((maxV m fun j => g j).1 + (1 : Int)), who) != (0 : Int) then (sck (IntKind.wrap IntKind.i64 ((maxV m fun j => g j).1 + (1 : Int)), who)) else (0 : Int)))
def g_next : List CA → Option Value
  | [.rows _ m g, .val (.int .i64 who)] => some (.tuple ⟨[.agg ⟨[.int .i64 (x0_next m g who), .int .i64 (x1_next m g who)]⟩, .int .i64 (x2_next m g who)]⟩)
  | _ => none
theorem q_next : QOk K12.P 25 (listC [.one (.rows stK), .one .val] g_next) := list_q K12_ok Try.func25 rfl rfl (no_loops rfl) fun cas r hb hk h => by
  unfold g_next at h
  split at h
  · rename_i sh0 m g who
    have e0 := kind_rows (i := 0) hk rfl rfl
    have hbm := bnd_rows (i := 0) hb rfl
    subst e0
    cases h
    refine ⟨rfl, ?_⟩
    show (evV K12 noL _ [.slice (some ⟨0, 0, some 0⟩) m m, .int .i64 who] [.recs stK m g]).sat _
    rw [run_next]
    exact sat_ask (by first | omega | exact ⟨Nat.le_refl _, by assumption⟩ | exact ⟨rfl, rfl⟩ | simp_all) (sat_tst (fun h0 => leaf_v (by simp only [x0_next, x1_next, x2_next, h0, cond_true])) (fun h0 => sat_tst (fun h1 => leaf_v (by simp only [x0_next, x1_next, x2_next, h0, h1, cond_true, cond_false])) (fun h1 => leaf_v (by simp only [x0_next, x1_next, x2_next, h0, h1, cond_false]))))
  · cases h
theorem run_akind (x : Int) : evV K12 noL Try.f40 [.int .i64 x] [] = tst (x == (1 : Int)) (Out.done AE.ret { slots := [some (Value.bool true)], heap := [] }) (Out.done AE.ret { slots := [some (Value.bool (x == (2 : Int)))], heap := [] }) := by kernel_rfl
def x_akind (x : Int) : Bool := (bif x == (1 : Int) then (true) else (x == (2 : Int)))
def g_akind : List CA → Option Value
  | [.val (.int .i64 x)] => some (.bool (x_akind x))
  | _ => none
theorem q_akind : QOk K12.P 40 (listC [.one .val] g_akind) := list_q K12_ok Try.func40 rfl rfl (no_loops rfl) fun cas r hb hk h => by
  unfold g_akind at h
  split at h
  · rename_i x
    cases h
    refine ⟨rfl, ?_⟩
    show (evV K12 noL _ [.int .i64 x] []).sat _
    rw [run_akind]
    exact sat_tst (fun h0 => leaf_v (by simp only [x_akind, h0, cond_true])) (fun h0 => leaf_v (by simp only [x_akind, h0, cond_false]))
  · cases h
theorem run_aphase (x : Int) : evV K12 noL Try.f41 [.int .i64 x] [] = tst (decide ((1 : Int) ≤ x)) (Out.done AE.ret { slots := [some (Value.bool (decide (x ≤ (3 : Int))))], heap := [] }) (Out.done AE.ret { slots := [some (Value.bool false)], heap := [] }) := by kernel_rfl
def x_aphase (x : Int) : Bool := (bif decide ((1 : Int) ≤ x) then (decide (x ≤ (3 : Int))) else (false))
def g_aphase : List CA → Option Value
  | [.val (.int .i64 x)] => some (.bool (x_aphase x))
  | _ => none
theorem q_aphase : QOk K12.P 41 (listC [.one .val] g_aphase) := list_q K12_ok Try.func41 rfl rfl (no_loops rfl) fun cas r hb hk h => by
  unfold g_aphase at h
  split at h
  · rename_i x
    cases h
    refine ⟨rfl, ?_⟩
    show (evV K12 noL _ [.int .i64 x] []).sat _
    rw [run_aphase]
    exact sat_tst (fun h0 => leaf_v (by simp only [x_aphase, h0, cond_true])) (fun h0 => leaf_v (by simp only [x_aphase, h0, cond_false]))
  · cases h
theorem run_wkind (x : Int) : evV K12 noL Try.f48 [.int .i64 x] [] = tst (decide ((1 : Int) ≤ x)) (Out.done AE.ret { slots := [some (Value.bool (decide (x ≤ (4 : Int))))], heap := [] }) (Out.done AE.ret { slots := [some (Value.bool false)], heap := [] }) := by kernel_rfl
def x_wkind (x : Int) : Bool := (bif decide ((1 : Int) ≤ x) then (decide (x ≤ (4 : Int))) else (false))
def g_wkind : List CA → Option Value
  | [.val (.int .i64 x)] => some (.bool (x_wkind x))
  | _ => none
theorem q_wkind : QOk K12.P 48 (listC [.one .val] g_wkind) := list_q K12_ok Try.func48 rfl rfl (no_loops rfl) fun cas r hb hk h => by
  unfold g_wkind at h
  split at h
  · rename_i x
    cases h
    refine ⟨rfl, ?_⟩
    show (evV K12 noL _ [.int .i64 x] []).sat _
    rw [run_wkind]
    exact sat_tst (fun h0 => leaf_v (by simp only [x_wkind, h0, cond_true])) (fun h0 => leaf_v (by simp only [x_wkind, h0, cond_false]))
  · cases h
theorem run_wcopy (x : Int) : evV K12 noL Try.f49 [.int .i64 x] [] = tst (x == (2 : Int)) (Out.done AE.ret { slots := [some (Value.bool true)], heap := [] }) (Out.done AE.ret { slots := [some (Value.bool (x == (3 : Int)))], heap := [] }) := by kernel_rfl
def x_wcopy (x : Int) : Bool := (bif x == (2 : Int) then (true) else (x == (3 : Int)))
def g_wcopy : List CA → Option Value
  | [.val (.int .i64 x)] => some (.bool (x_wcopy x))
  | _ => none
theorem q_wcopy : QOk K12.P 49 (listC [.one .val] g_wcopy) := list_q K12_ok Try.func49 rfl rfl (no_loops rfl) fun cas r hb hk h => by
  unfold g_wcopy at h
  split at h
  · rename_i x
    cases h
    refine ⟨rfl, ?_⟩
    show (evV K12 noL _ [.int .i64 x] []).sat _
    rw [run_wcopy]
    exact sat_tst (fun h0 => leaf_v (by simp only [x_wcopy, h0, cond_true])) (fun h0 => leaf_v (by simp only [x_wcopy, h0, cond_false]))
  · cases h
theorem run_rhas (x : Int) : evV K12 noL Try.f53 [.int .i64 x] [] = tst (x == (2 : Int)) (Out.done AE.ret { slots := [some (Value.bool true)], heap := [] }) (Out.done AE.ret { slots := [some (Value.bool (x == (3 : Int)))], heap := [] }) := by kernel_rfl
def x_rhas (x : Int) : Bool := (bif x == (2 : Int) then (true) else (x == (3 : Int)))
def g_rhas : List CA → Option Value
  | [.val (.int .i64 x)] => some (.bool (x_rhas x))
  | _ => none
theorem q_rhas : QOk K12.P 53 (listC [.one .val] g_rhas) := list_q K12_ok Try.func53 rfl rfl (no_loops rfl) fun cas r hb hk h => by
  unfold g_rhas at h
  split at h
  · rename_i x
    cases h
    refine ⟨rfl, ?_⟩
    show (evV K12 noL _ [.int .i64 x] []).sat _
    rw [run_rhas]
    exact sat_tst (fun h0 => leaf_v (by simp only [x_rhas, h0, cond_true])) (fun h0 => leaf_v (by simp only [x_rhas, h0, cond_false]))
  · cases h
theorem run_store (t : Int) (w : Int) (s : ByteArray) (x : Int) (y : Int) (z : ByteArray) : evV K12 noL Try.f45 [.agg ⟨[.int .i64 t, .int .i64 w, .string s]⟩, .agg ⟨[.int .i64 x, .int .i64 y, .string z]⟩] [] = Out.ask ((2 : Nat) ≤ (2 : Nat) ∧ (2 : Nat) ≤ (140737488355328 : Nat)) (tst (cks [((t, w), s), ((x, y), z)] != (0 : Int)) (Out.done AE.ret { slots := [some (Value.tuple { toList := [Value.agg { toList := [Value.int IntKind.i64 (0 : Int), Value.int IntKind.i64 (0 : Int), Value.string { data := { toList := [] } }] }, Value.int IntKind.i64 (cks [((t, w), s), ((x, y), z)])] })], heap := [] }) (Out.done AE.ret { slots := [some (Value.tuple { toList := [Value.agg { toList := [Value.int IntKind.i64 (ltr ((t, w), s) ((x, y), z)).1.1, Value.int IntKind.i64 (ltr ((t, w), s) ((x, y), z)).1.2, Value.string (ltr ((t, w), s) ((x, y), z)).2] }, Value.int IntKind.i64 (0 : Int)] })], heap := [] })) := by kernel_rfl
def x0_store (t : Int) (w : Int) (s : ByteArray) (x : Int) (y : Int) (z : ByteArray) : Int := (bif cks [((t, w), s), ((x, y), z)] != (0 : Int) then (0 : Int) else ((ltr ((t, w), s) ((x, y), z)).1.1))
def x1_store (t : Int) (w : Int) (s : ByteArray) (x : Int) (y : Int) (z : ByteArray) : Int := (bif cks [((t, w), s), ((x, y), z)] != (0 : Int) then (0 : Int) else ((ltr ((t, w), s) ((x, y), z)).1.2))
def x2_store (t : Int) (w : Int) (s : ByteArray) (x : Int) (y : Int) (z : ByteArray) : ByteArray := (bif cks [((t, w), s), ((x, y), z)] != (0 : Int) then ({ data := { toList := [] } }) else ((ltr ((t, w), s) ((x, y), z)).2))
def x3_store (t : Int) (w : Int) (s : ByteArray) (x : Int) (y : Int) (z : ByteArray) : Int := (bif cks [((t, w), s), ((x, y), z)] != (0 : Int) then (cks [((t, w), s), ((x, y), z)]) else (0 : Int))
def g_store : List CA → Option Value
  | [.val (.agg ⟨[.int .i64 t, .int .i64 w, .string s]⟩), .val (.agg ⟨[.int .i64 x, .int .i64 y, .string z]⟩)] => some (.tuple ⟨[.agg ⟨[.int .i64 (x0_store t w s x y z), .int .i64 (x1_store t w s x y z), .string (x2_store t w s x y z)]⟩, .int .i64 (x3_store t w s x y z)]⟩)
  | _ => none
theorem q_store : QOk K12.P 45 (listC [.one .val, .one .val] g_store) := list_q K12_ok Try.func45 rfl rfl (no_loops rfl) fun cas r hb hk h => by
  unfold g_store at h
  split at h
  · rename_i t w s x y z
    cases h
    refine ⟨rfl, ?_⟩
    show (evV K12 noL _ [.agg ⟨[.int .i64 t, .int .i64 w, .string s]⟩, .agg ⟨[.int .i64 x, .int .i64 y, .string z]⟩] []).sat _
    rw [run_store]
    exact sat_ask (by first | omega | exact ⟨Nat.le_refl _, by assumption⟩ | exact ⟨rfl, rfl⟩ | simp_all) (sat_tst (fun h0 => leaf_v (by simp only [x0_store, x1_store, x2_store, x3_store, h0, cond_true])) (fun h0 => leaf_v (by simp only [x0_store, x1_store, x2_store, x3_store, h0, cond_false])))
  · cases h
-- @end
-- @file mc.chain
noncomputable def K13 : Kn := ((((((((((K12.addQ 22 (listC [.one (.rows wtK), .one .val, .one .val] g_enough)).addQ 59 (listC [.one .val] g_rsc)).addQ 54 (listC [.one .val, .one .val] g_rsl)).addQ 24 (listC [.one .val, .one .val] g_at)).addQ 25 (listC [.one (.rows stK), .one .val] g_next)).addQ 40 (listC [.one .val] g_akind)).addQ 41 (listC [.one .val] g_aphase)).addQ 48 (listC [.one .val] g_wkind)).addQ 49 (listC [.one .val] g_wcopy)).addQ 53 (listC [.one .val] g_rhas)).addQ 45 (listC [.one .val, .one .val] g_store)
theorem K13_ok : K13.Ok := ((((((((((K12_ok.addQ q_enough).addQ q_rsc).addQ q_rsl).addQ q_at).addQ q_next).addQ q_akind).addQ q_aphase).addQ q_wkind).addQ q_wcopy).addQ q_rhas).addQ q_store
-- @end
end Go.Proofs.Ytbmbnbhedalcnaa
