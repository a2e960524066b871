/- Checks of operations and messages: contracts; what a phase waits for. -/
import Derived.Test.YtbmbnbhedalcnaaMd0
namespace Go.Proofs.Ytbmbnbhedalcnaa
open Go.RowKit
-- @file md.out
theorem run_block (t : Int) (u : Int) (s : ByteArray) : evV K14 noL Try.f38 [.int .i64 t, .int .i64 u, .string s] [] = Out.done AE.ret { slots := [some (Value.agg { toList := [Value.int IntKind.i64 t, Value.int IntKind.i64 u, Value.string s] })], heap := [] } := by kernel_rfl
def x0_block (t : Int) : Int := (t)
def x1_block (u : Int) : Int := (u)
def x2_block (s : ByteArray) : ByteArray := (s)
def g_block : List CA → Option Value
  | [.val (.int .i64 t), .val (.int .i64 u), .val (.string s)] => some (.agg ⟨[.int .i64 (x0_block t), .int .i64 (x1_block u), .string (x2_block s)]⟩)
  | _ => none
theorem q_block : QOk K14.P 38 (listC [.one .val, .one .val, .one .val] g_block) := list_q K14_ok Try.func38 rfl rfl (no_loops rfl) fun cas r hb hk h => by
  unfold g_block at h
  split at h
  · rename_i t u s
    cases h
    refine ⟨rfl, ?_⟩
    show (evV K14 noL _ [.int .i64 t, .int .i64 u, .string s] []).sat _
    rw [run_block]
    exact leaf_v rfl
  · cases h
theorem run_rcc (t : Int) (w : Int) (s : ByteArray) : evV K14 noL Try.f44 [.agg ⟨[.int .i64 t, .int .i64 w, .string s]⟩] [] = tst (x_rsc t w == (0 : Int)) (tst (decide ((↑(ByteArray.size s) : Int) > (64 : Int))) (Out.done AE.ret { slots := [some (Value.int IntKind.i64 (2 : Int))], heap := [] }) (Out.done AE.ret { slots := [some (Value.int IntKind.i64 (x_rsc t w))], heap := [] })) (Out.done AE.ret { slots := [some (Value.int IntKind.i64 (x_rsc t w))], heap := [] }) := by kernel_rfl
def x_rcc (t : Int) (w : Int) (s : ByteArray) : Int := (bif x_rsc t w == (0 : Int) then (bif decide ((↑(ByteArray.size s) : Int) > (64 : Int)) then (2 : Int) else (x_rsc t w)) else (x_rsc t w))
def g_rcc : List CA → Option Value
  | [.val (.agg ⟨[.int .i64 t, .int .i64 w, .string s]⟩)] => some (.int .i64 (x_rcc t w s))
  | _ => none
theorem q_rcc : QOk K14.P 44 (listC [.one .val] g_rcc) := list_q K14_ok Try.func44 rfl rfl (no_loops rfl) fun cas r hb hk h => by
  unfold g_rcc at h
  split at h
  · rename_i t w s
    cases h
    refine ⟨rfl, ?_⟩
    show (evV K14 noL _ [.agg ⟨[.int .i64 t, .int .i64 w, .string s]⟩] []).sat _
    rw [run_rcc]
    exact sat_tst (fun h0 => sat_tst (fun h1 => leaf_v (by simp only [x_rcc, h0, h1, cond_true])) (fun h1 => leaf_v (by simp only [x_rcc, h0, h1, cond_true, cond_false]))) (fun h0 => leaf_v (by simp only [x_rcc, h0, cond_false]))
  · cases h
theorem run_answer (op : Int) (node : Int) (t : Int) (w : Int) (s : ByteArray) : evV K14 noL Try.f37 [.int .i64 op, .int .i64 node, .agg ⟨[.int .i64 t, .int .i64 w, .string s]⟩] [] = Out.done AE.ret { slots := [some (Value.agg { toList := [Value.int IntKind.i64 (2 : Int), Value.int IntKind.i64 op, Value.int IntKind.i64 node, Value.int IntKind.i64 t, Value.int IntKind.i64 w, Value.string s] })], heap := [] } := by kernel_rfl
def x0_answer  : Int := (2 : Int)
def x1_answer (op : Int) : Int := (op)
def x2_answer (node : Int) : Int := (node)
def x3_answer (t : Int) : Int := (t)
def x4_answer (w : Int) : Int := (w)
def x5_answer (s : ByteArray) : ByteArray := (s)
def g_answer : List CA → Option Value
  | [.val (.int .i64 op), .val (.int .i64 node), .val (.agg ⟨[.int .i64 t, .int .i64 w, .string s]⟩)] => some (.agg ⟨[.int .i64 (x0_answer), .int .i64 (x1_answer op), .int .i64 (x2_answer node), .int .i64 (x3_answer t), .int .i64 (x4_answer w), .string (x5_answer s)]⟩)
  | _ => none
theorem q_answer : QOk K14.P 37 (listC [.one .val, .one .val, .one .val] g_answer) := list_q K14_ok Try.func37 rfl rfl (no_loops rfl) fun cas r hb hk h => by
  unfold g_answer at h
  split at h
  · rename_i op node t w s
    cases h
    refine ⟨rfl, ?_⟩
    show (evV K14 noL _ [.int .i64 op, .int .i64 node, .agg ⟨[.int .i64 t, .int .i64 w, .string s]⟩] []).sat _
    rw [run_answer]
    exact leaf_v rfl
  · cases h
theorem run_wchk (k : Int) (op : Int) (n : Int) (t : Int) (w : Int) (s : ByteArray) : evV K14 noL Try.f26 [.agg ⟨[.int .i64 k, .int .i64 op, .int .i64 n, .int .i64 t, .int .i64 w, .string s]⟩] [] = tst (!x_wkind k) (Out.done AE.ret { slots := [some (Value.int IntKind.i64 (7 : Int))], heap := [] }) (tst (decide (op < (0 : Int))) (Out.done AE.ret { slots := [some (Value.int IntKind.i64 (3 : Int))], heap := [] }) (tst (decide (op ≥ (31 : Int))) (Out.done AE.ret { slots := [some (Value.int IntKind.i64 (3 : Int))], heap := [] }) (tst (decide (n < (0 : Int))) (Out.done AE.ret { slots := [some (Value.int IntKind.i64 (3 : Int))], heap := [] }) (tst (decide (n ≥ (12 : Int))) (Out.done AE.ret { slots := [some (Value.int IntKind.i64 (3 : Int))], heap := [] }) (tst (cck ((t, w), s) != (0 : Int)) (Out.done AE.ret { slots := [some (Value.int IntKind.i64 (cck ((t, w), s)))], heap := [] }) (tst (!x_wcopy k) (tst (bif false then decide (t = (0 : Int) ∧ w = (0 : Int) ∧ s = { data := #[] }) else !decide (t = (0 : Int) ∧ w = (0 : Int) ∧ s = { data := #[] })) (Out.done AE.ret { slots := [some (Value.int IntKind.i64 (1 : Int))], heap := [] }) (Out.done AE.ret { slots := [some (Value.int IntKind.i64 (0 : Int))], heap := [] })) (Out.done AE.ret { slots := [some (Value.int IntKind.i64 (0 : Int))], heap := [] }))))))) := by kernel_rfl
def x_wchk (k : Int) (op : Int) (n : Int) (t : Int) (w : Int) (s : ByteArray) : Int := (bif !x_wkind k then (7 : Int) else (bif decide (op < (0 : Int)) then (3 : Int) else (bif decide (op ≥ (31 : Int)) then (3 : Int) else (bif decide (n < (0 : Int)) then (3 : Int) else (bif decide (n ≥ (12 : Int)) then (3 : Int) else (bif cck ((t, w), s) != (0 : Int) then (cck ((t, w), s)) else (bif !x_wcopy k then (bif bif false then decide (t = (0 : Int) ∧ w = (0 : Int) ∧ s = { data := #[] }) else !decide (t = (0 : Int) ∧ w = (0 : Int) ∧ s = { data := #[] }) then (1 : Int) else (0 : Int)) else (0 : Int))))))))
def g_wchk : List CA → Option Value
  | [.val (.agg ⟨[.int .i64 k, .int .i64 op, .int .i64 n, .int .i64 t, .int .i64 w, .string s]⟩)] => some (.int .i64 (x_wchk k op n t w s))
  | _ => none
theorem q_wchk : QOk K14.P 26 (listC [.one .val] g_wchk) := list_q K14_ok Try.func26 rfl rfl (no_loops rfl) fun cas r hb hk h => by
  unfold g_wchk at h
  split at h
  · rename_i k op n t w s
    cases h
    refine ⟨rfl, ?_⟩
    show (evV K14 noL _ [.agg ⟨[.int .i64 k, .int .i64 op, .int .i64 n, .int .i64 t, .int .i64 w, .string s]⟩] []).sat _
    rw [run_wchk]
    exact sat_tst (fun h0 => leaf_v (by simp only [x_wchk, h0, cond_true])) (fun h0 => sat_tst (fun h1 => leaf_v (by simp only [x_wchk, h0, h1, cond_true, cond_false])) (fun h1 => sat_tst (fun h2 => leaf_v (by simp only [x_wchk, h0, h1, h2, cond_true, cond_false])) (fun h2 => sat_tst (fun h3 => leaf_v (by simp only [x_wchk, h0, h1, h2, h3, cond_true, cond_false])) (fun h3 => sat_tst (fun h4 => leaf_v (by simp only [x_wchk, h0, h1, h2, h3, h4, cond_true, cond_false])) (fun h4 => sat_tst (fun h5 => leaf_v (by simp only [x_wchk, h0, h1, h2, h3, h4, h5, cond_true, cond_false])) (fun h5 => sat_tst (fun h6 => sat_tst (fun h7 => leaf_v (by simp only [x_wchk, h0, h1, h2, h3, h4, h5, h6, h7, cond_true, cond_false])) (fun h7 => leaf_v (by simp only [x_wchk, h0, h1, h2, h3, h4, h5, h6, h7, cond_true, cond_false]))) (fun h6 => leaf_v (by simp only [x_wchk, h0, h1, h2, h3, h4, h5, h6, cond_false]))))))))
  · cases h
theorem run_achk (m : Nat) (g : Nat → List Value) (need : Int) (op : Int) (k : Int) (p : Int) (d : ByteArray) (t : Int) (w : Int) (s : ByteArray) (hd : Int) : evV K14 noL Try.f17 [.agg ⟨[.slice (some ⟨0, 0, some 0⟩) m m, .int .i64 need]⟩, .agg ⟨[.int .i64 op, .int .i64 k, .int .i64 p, .string d, .int .i64 t, .int .i64 w, .string s, .int .u64 hd]⟩] [.recs wtK m g] = Out.ask (m ≤ m ∧ m ≤ (140737488355328 : Nat)) (tst (qE (wsOf m fun j => g j) need != (0 : Int)) (Out.done AE.ret { slots := [some (Value.int IntKind.i64 (qE (wsOf m fun j => g j) need))], heap := [] }) (tst (decide (op < (0 : Int))) (Out.done AE.ret { slots := [some (Value.int IntKind.i64 (3 : Int))], heap := [] }) (tst (decide (op ≥ (31 : Int))) (Out.done AE.ret { slots := [some (Value.int IntKind.i64 (3 : Int))], heap := [] }) (tst (!x_akind k) (Out.done AE.ret { slots := [some (Value.int IntKind.i64 (7 : Int))], heap := [] }) (tst (!x_aphase p) (Out.done AE.ret { slots := [some (Value.int IntKind.i64 (7 : Int))], heap := [] }) (tst (decide ((↑(ByteArray.size d) : Int) > (64 : Int))) (Out.done AE.ret { slots := [some (Value.int IntKind.i64 (2 : Int))], heap := [] }) (tst (k == (1 : Int)) (tst (!ByteArray.toList d == []) (Out.done AE.ret { slots := [some (Value.int IntKind.i64 (1 : Int))], heap := [] }) (tst (cck ((t, w), s) != (0 : Int)) (Out.done AE.ret { slots := [some (Value.int IntKind.i64 (cck ((t, w), s)))], heap := [] }) (Out.ask ((0 : Int) ≤ (↑m : Int)) (tst (shrV IntKind.u64 hd (↑m : Int) != (0 : Int)) (Out.done AE.ret { slots := [some (Value.int IntKind.i64 (3 : Int))], heap := [] }) (Out.done AE.ret { slots := [some (Value.int IntKind.i64 (0 : Int))], heap := [] }))))) (tst (cck ((t, w), s) != (0 : Int)) (Out.done AE.ret { slots := [some (Value.int IntKind.i64 (cck ((t, w), s)))], heap := [] }) (Out.ask ((0 : Int) ≤ (↑m : Int)) (tst (shrV IntKind.u64 hd (↑m : Int) != (0 : Int)) (Out.done AE.ret { slots := [some (Value.int IntKind.i64 (3 : Int))], heap := [] }) (Out.done AE.ret { slots := [some (Value.int IntKind.i64 (0 : Int))], heap := [] }))))))))))) := by kernel_rfl
def x_achk (m : Nat) (g : Nat → List Value) (need : Int) (op : Int) (k : Int) (p : Int) (d : ByteArray) (t : Int) (w : Int) (s : ByteArray) (hd : Int) : Int := (bif qE (wsOf m fun j => g j) need != (0 : Int) then (qE (wsOf m fun j => g j) need) else (bif decide (op < (0 : Int)) then (3 : Int) else (bif decide (op ≥ (31 : Int)) then (3 : Int) else (bif !x_akind k then (7 : Int) else (bif !x_aphase p then (7 : Int) else (bif decide ((↑(ByteArray.size d) : Int) > (64 : Int)) then (2 : Int) else (bif k == (1 : Int) then (bif !ByteArray.toList d == [] then (1 : Int) else (bif cck ((t, w), s) != (0 : Int) then (cck ((t, w), s)) else (bif shrV IntKind.u64 hd (↑m : Int) != (0 : Int) then (3 : Int) else (0 : Int)))) else (bif cck ((t, w), s) != (0 : Int) then (cck ((t, w), s)) else (bif shrV IntKind.u64 hd (↑m : Int) != (0 : Int) then (3 : Int) else (0 : Int))))))))))
def g_achk : List CA → Option Value
  | [.rows _ m g, .val (.int .i64 need), .val (.agg ⟨[.int .i64 op, .int .i64 k, .int .i64 p, .string d, .int .i64 t, .int .i64 w, .string s, .int .u64 hd]⟩)] => some (.int .i64 (x_achk m g need op k p d t w s hd))
  | _ => none
theorem q_achk : QOk K14.P 17 (listC [.agg [.rows wtK, .val], .one .val] g_achk) := list_q K14_ok Try.func17 rfl rfl (no_loops rfl) fun cas r hb hk h => by
  unfold g_achk at h
  split at h
  · rename_i sh0 m g need op k p d t w s hd
    have e0 := kind_rows (i := 0) hk rfl rfl
    have hbm := bnd_rows (i := 0) hb rfl
    subst e0
    cases h
    refine ⟨rfl, ?_⟩
    show (evV K14 noL _ [.agg ⟨[.slice (some ⟨0, 0, some 0⟩) m m, .int .i64 need]⟩, .agg ⟨[.int .i64 op, .int .i64 k, .int .i64 p, .string d, .int .i64 t, .int .i64 w, .string s, .int .u64 hd]⟩] [.recs wtK m g]).sat _
    rw [run_achk]
    exact sat_ask (by first | omega | exact ⟨Nat.le_refl _, by assumption⟩ | exact ⟨rfl, rfl⟩ | simp_all) (sat_tst (fun h0 => leaf_v (by simp only [x_achk, h0, cond_true])) (fun h0 => sat_tst (fun h1 => leaf_v (by simp only [x_achk, h0, h1, cond_true, cond_false])) (fun h1 => sat_tst (fun h2 => leaf_v (by simp only [x_achk, h0, h1, h2, cond_true, cond_false])) (fun h2 => sat_tst (fun h3 => leaf_v (by simp only [x_achk, h0, h1, h2, h3, cond_true, cond_false])) (fun h3 => sat_tst (fun h4 => leaf_v (by simp only [x_achk, h0, h1, h2, h3, h4, cond_true, cond_false])) (fun h4 => sat_tst (fun h5 => leaf_v (by simp only [x_achk, h0, h1, h2, h3, h4, h5, cond_true, cond_false])) (fun h5 => sat_tst (fun h6 => sat_tst (fun h7 => leaf_v (by simp only [x_achk, h0, h1, h2, h3, h4, h5, h6, h7, cond_true, cond_false])) (fun h7 => sat_tst (fun h8 => leaf_v (by simp only [x_achk, h0, h1, h2, h3, h4, h5, h6, h7, h8, cond_true, cond_false])) (fun h8 => sat_ask (by first | omega | exact ⟨Nat.le_refl _, by assumption⟩ | exact ⟨rfl, rfl⟩ | simp_all) (sat_tst (fun h9 => leaf_v (by simp only [x_achk, h0, h1, h2, h3, h4, h5, h6, h7, h8, h9, cond_true, cond_false])) (fun h9 => leaf_v (by simp only [x_achk, h0, h1, h2, h3, h4, h5, h6, h7, h8, h9, cond_true, cond_false])))))) (fun h6 => sat_tst (fun h7 => leaf_v (by simp only [x_achk, h0, h1, h2, h3, h4, h5, h6, h7, cond_true, cond_false])) (fun h7 => sat_ask (by first | omega | exact ⟨Nat.le_refl _, by assumption⟩ | exact ⟨rfl, rfl⟩ | simp_all) (sat_tst (fun h8 => leaf_v (by simp only [x_achk, h0, h1, h2, h3, h4, h5, h6, h7, h8, cond_true, cond_false])) (fun h8 => leaf_v (by simp only [x_achk, h0, h1, h2, h3, h4, h5, h6, h7, h8, cond_false]))))))))))))
  · cases h
-- @end
-- @file md.chain
noncomputable def K15 : Kn := ((((K14.addQ 38 (listC [.one .val, .one .val, .one .val] g_block)).addQ 44 (listC [.one .val] g_rcc)).addQ 37 (listC [.one .val, .one .val, .one .val] g_answer)).addQ 26 (listC [.one .val] g_wchk)).addQ 17 (listC [.agg [.rows wtK, .val], .one .val] g_achk)
theorem K15_ok : K15.Ok := ((((K14_ok.addQ q_block).addQ q_rcc).addQ q_answer).addQ q_wchk).addQ q_achk
-- @end
def wantsM : List MapEntry := [⟨.int .i64 1, .int .i64 2, 0⟩, ⟨.int .i64 2, .int .i64 4, 1⟩]
theorem run_wants : evR K15 noL Try.f50 [] [] [.one .val] [.mp wantsM 2] = .ask (wantsM = wantsM ∧ 2 = 2) (.done .ret ⟨[], []⟩) := by kernel_rfl
def g_wants : List CA → Option (List RC)
  | [] => some [.mp wantsM 2]
  | _ => none
theorem f_wants : FOk K15.P 50 (listG [] [.one .val] g_wants) := list_g K15_ok Try.func50 rfl rfl (no_loops rfl) fun cas rs _hb _hk h => by
  unfold g_wants at h
  split at h
  · cases h
    show (evR K15 noL _ [] [] [.one .val] _).sat _
    rw [run_wants]
    exact sat_ask ⟨rfl, rfl⟩ sat_end
  · cases h
noncomputable def K16 : Kn := K15.addF 50 (listG [] [.one .val] g_wants)
theorem K16_ok : K16.Ok := K15_ok.addF f_wants
end Go.Proofs.Ytbmbnbhedalcnaa
