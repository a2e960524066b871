/- Checks of seats, by symbolic runs. -/
import Derived.Test.YtbmbnbhedalcnabXg
namespace Go.Proofs.Ytbmbnbhedalcnab
open Go.RowKit
-- @file xh.out
theorem run_block (t : Int) (u : Int) (s : ByteArray) : evV K12 noL Try.f26 [.int .i64 t, .int .i64 u, .string s] [] = Out.done AE.ret { slots := [some (Value.agg { toList := [Value.int IntKind.i64 t, Value.int IntKind.i64 u, Value.string s] })], heap := [] } := by kernel_rfl
def x0_block (t : Int) : Int := (t)
def x1_block (u : Int) : Int := (u)
def x2_block (s : ByteArray) : ByteArray := (s)
def g_block : List CA → Option Value
  | [.val (.int .i64 t), .val (.int .i64 u), .val (.string s)] => some (.agg ⟨[.int .i64 (x0_block t), .int .i64 (x1_block u), .string (x2_block s)]⟩)
  | _ => none
theorem q_block : QOk K12.P 26 (listC [.one .val, .one .val, .one .val] g_block) := list_q K12_ok Try.func26 rfl rfl (no_loops rfl) fun cas r hb hk h => by
  unfold g_block at h
  split at h
  · rename_i t u s
    cases h
    refine ⟨rfl, ?_⟩
    show (evV K12 noL _ [.int .i64 t, .int .i64 u, .string s] []).sat _
    rw [run_block]
    exact leaf_v rfl
  · cases h
theorem run_prep (b : Int) (n : Int) (t : Int) : evV K12 noL Try.f25 [.int .i64 b, .int .i64 n, .int .i64 t] [] = Out.done AE.ret { slots := [some (Value.agg { toList := [Value.int IntKind.i64 (1 : Int), Value.int IntKind.i64 b, Value.int IntKind.i64 n, Value.int IntKind.i64 t, Value.int IntKind.i64 b, Value.string { data := { toList := [] } }] })], heap := [] } := by kernel_rfl
def x0_prep  : Int := (1 : Int)
def x1_prep (b : Int) : Int := (b)
def x2_prep (n : Int) : Int := (n)
def x3_prep (t : Int) : Int := (t)
def x4_prep (b : Int) : Int := (b)
def x5_prep  : ByteArray := ({ data := { toList := [] } })
def g_prep : List CA → Option Value
  | [.val (.int .i64 b), .val (.int .i64 n), .val (.int .i64 t)] => some (.agg ⟨[.int .i64 (x0_prep), .int .i64 (x1_prep b), .int .i64 (x2_prep n), .int .i64 (x3_prep t), .int .i64 (x4_prep b), .string (x5_prep)]⟩)
  | _ => none
theorem q_prep : QOk K12.P 25 (listC [.one .val, .one .val, .one .val] g_prep) := list_q K12_ok Try.func25 rfl rfl (no_loops rfl) fun cas r hb hk h => by
  unfold g_prep at h
  split at h
  · rename_i b n t
    cases h
    refine ⟨rfl, ?_⟩
    show (evV K12 noL _ [.int .i64 b, .int .i64 n, .int .i64 t] []).sat _
    rw [run_prep]
    exact leaf_v rfl
  · cases h
theorem run_cseat (a : Int) (b : Int) (t : Int) (w : Int) (s : ByteArray) : evV K12 noL Try.f11 [.agg ⟨[.int .i64 a, .int .i64 b, .int .i64 t, .int .i64 w, .string s]⟩] [] = tst (sck (a, b) != (0 : Int)) (Out.done AE.ret { slots := [some (Value.int IntKind.i64 (sck (a, b)))], heap := [] }) (tst (cck ((t, w), s) != (0 : Int)) (Out.done AE.ret { slots := [some (Value.int IntKind.i64 (cck ((t, w), s)))], heap := [] }) (tst (slt (a, b) (t, w)) (Out.done AE.ret { slots := [some (Value.int IntKind.i64 (4 : Int))], heap := [] }) (Out.done AE.ret { slots := [some (Value.int IntKind.i64 (0 : Int))], heap := [] }))) := by kernel_rfl
def x_cseat (a : Int) (b : Int) (t : Int) (w : Int) (s : ByteArray) : Int := (bif sck (a, b) != (0 : Int) then (sck (a, b)) else (bif cck ((t, w), s) != (0 : Int) then (cck ((t, w), s)) else (bif slt (a, b) (t, w) then (4 : Int) else (0 : Int))))
def g_cseat : List CA → Option Value
  | [.val (.agg ⟨[.int .i64 a, .int .i64 b, .int .i64 t, .int .i64 w, .string s]⟩)] => some (.int .i64 (x_cseat a b t w s))
  | _ => none
theorem q_cseat : QOk K12.P 11 (listC [.one .val] g_cseat) := list_q K12_ok Try.func11 rfl rfl (no_loops rfl) fun cas r hb hk h => by
  unfold g_cseat at h
  split at h
  · rename_i a b t w s
    cases h
    refine ⟨rfl, ?_⟩
    show (evV K12 noL _ [.agg ⟨[.int .i64 a, .int .i64 b, .int .i64 t, .int .i64 w, .string s]⟩] []).sat _
    rw [run_cseat]
    exact sat_tst (fun h0 => leaf_v (by simp only [x_cseat, h0, cond_true])) (fun h0 => sat_tst (fun h1 => leaf_v (by simp only [x_cseat, h0, h1, cond_true, cond_false])) (fun h1 => sat_tst (fun h2 => leaf_v (by simp only [x_cseat, h0, h1, h2, cond_true, cond_false])) (fun h2 => leaf_v (by simp only [x_cseat, h0, h1, h2, cond_false]))))
  · cases h
theorem run_cvote (k : Int) (b : Int) (n : Int) (t : Int) (w : Int) (s : ByteArray) : evV K12 noL Try.f9 [.agg ⟨[.int .i64 k, .int .i64 b, .int .i64 n, .int .i64 t, .int .i64 w, .string s]⟩] [] = tst (decide (k < (1 : Int))) (Out.done AE.ret { slots := [some (Value.int IntKind.i64 (7 : Int))], heap := [] }) (tst (decide (k > (4 : Int))) (Out.done AE.ret { slots := [some (Value.int IntKind.i64 (7 : Int))], heap := [] }) (tst (!x_num b) (Out.done AE.ret { slots := [some (Value.int IntKind.i64 (3 : Int))], heap := [] }) (tst (decide (n < (0 : Int))) (Out.done AE.ret { slots := [some (Value.int IntKind.i64 (3 : Int))], heap := [] }) (tst (decide (n ≥ (12 : Int))) (Out.done AE.ret { slots := [some (Value.int IntKind.i64 (3 : Int))], heap := [] }) (tst (cck ((t, w), s) != (0 : Int)) (Out.done AE.ret { slots := [some (Value.int IntKind.i64 (cck ((t, w), s)))], heap := [] }) (tst (!ByteArray.toList s == []) (tst (x_alone k) (Out.done AE.ret { slots := [some (Value.int IntKind.i64 (1 : Int))], heap := [] }) (Out.done AE.ret { slots := [some (Value.int IntKind.i64 (0 : Int))], heap := [] })) (Out.done AE.ret { slots := [some (Value.int IntKind.i64 (0 : Int))], heap := [] }))))))) := by kernel_rfl
def x_cvote (k : Int) (b : Int) (n : Int) (t : Int) (w : Int) (s : ByteArray) : Int := (bif decide (k < (1 : Int)) then (7 : Int) else (bif decide (k > (4 : Int)) then (7 : Int) else (bif !x_num b then (3 : Int) else (bif decide (n < (0 : Int)) then (3 : Int) else (bif decide (n ≥ (12 : Int)) then (3 : Int) else (bif cck ((t, w), s) != (0 : Int) then (cck ((t, w), s)) else (bif !ByteArray.toList s == [] then (bif x_alone k then (1 : Int) else (0 : Int)) else (0 : Int))))))))
def g_cvote : List CA → Option Value
  | [.val (.agg ⟨[.int .i64 k, .int .i64 b, .int .i64 n, .int .i64 t, .int .i64 w, .string s]⟩)] => some (.int .i64 (x_cvote k b n t w s))
  | _ => none
theorem q_cvote : QOk K12.P 9 (listC [.one .val] g_cvote) := list_q K12_ok Try.func9 rfl rfl (no_loops rfl) fun cas r hb hk h => by
  unfold g_cvote at h
  split at h
  · rename_i k b n t w s
    cases h
    refine ⟨rfl, ?_⟩
    show (evV K12 noL _ [.agg ⟨[.int .i64 k, .int .i64 b, .int .i64 n, .int .i64 t, .int .i64 w, .string s]⟩] []).sat _
    rw [run_cvote]
    exact sat_tst (fun h0 => leaf_v (by simp only [x_cvote, h0, cond_true])) (fun h0 => sat_tst (fun h1 => leaf_v (by simp only [x_cvote, h0, h1, cond_true, cond_false])) (fun h1 => sat_tst (fun h2 => leaf_v (by simp only [x_cvote, h0, h1, h2, cond_true, cond_false])) (fun h2 => sat_tst (fun h3 => leaf_v (by simp only [x_cvote, h0, h1, h2, h3, cond_true, cond_false])) (fun h3 => sat_tst (fun h4 => leaf_v (by simp only [x_cvote, h0, h1, h2, h3, h4, cond_true, cond_false])) (fun h4 => sat_tst (fun h5 => leaf_v (by simp only [x_cvote, h0, h1, h2, h3, h4, h5, cond_true, cond_false])) (fun h5 => sat_tst (fun h6 => sat_tst (fun h7 => leaf_v (by simp only [x_cvote, h0, h1, h2, h3, h4, h5, h6, h7, cond_true, cond_false])) (fun h7 => leaf_v (by simp only [x_cvote, h0, h1, h2, h3, h4, h5, h6, h7, cond_true, cond_false]))) (fun h6 => leaf_v (by simp only [x_cvote, h0, h1, h2, h3, h4, h5, h6, cond_false]))))))))
  · cases h
theorem run_cbid (m : Nat) (g : Nat → List Value) (need : Int) (a : Int) (p : Int) (o : ByteArray) (v : ByteArray) (t : Int) (w : Int) (s : ByteArray) (hd : Int) : evV K12 noL Try.f18 [.agg ⟨[.slice (some ⟨0, 0, some 0⟩) m m, .int .i64 need]⟩, .agg ⟨[.int .i64 a, .int .i64 p, .string o, .string v, .int .i64 t, .int .i64 w, .string s, .int .u64 hd]⟩] [.recs wtK m g] = Out.ask (m ≤ m ∧ m ≤ (140737488355328 : Nat)) (tst (qE (wsOf m fun j => g j) need != (0 : Int)) (Out.done AE.ret { slots := [some (Value.int IntKind.i64 (qE (wsOf m fun j => g j) need))], heap := [] }) (tst (decide (a < (1 : Int))) (Out.done AE.ret { slots := [some (Value.int IntKind.i64 (3 : Int))], heap := [] }) (tst (decide (a > (1000000 : Int))) (Out.done AE.ret { slots := [some (Value.int IntKind.i64 (3 : Int))], heap := [] }) (tst (decide (p < (1 : Int))) (Out.done AE.ret { slots := [some (Value.int IntKind.i64 (7 : Int))], heap := [] }) (tst (decide (p > (3 : Int))) (Out.done AE.ret { slots := [some (Value.int IntKind.i64 (7 : Int))], heap := [] }) (tst (decide ((↑(ByteArray.size o) : Int) > (64 : Int))) (Out.done AE.ret { slots := [some (Value.int IntKind.i64 (2 : Int))], heap := [] }) (tst (decide ((↑(ByteArray.size v) : Int) > (64 : Int))) (Out.done AE.ret { slots := [some (Value.int IntKind.i64 (2 : Int))], heap := [] }) (tst (cck ((t, w), s) != (0 : Int)) (Out.done AE.ret { slots := [some (Value.int IntKind.i64 (cck ((t, w), s)))], heap := [] }) (Out.ask ((0 : Int) ≤ (↑m : Int)) (tst (shrV IntKind.u64 hd (↑m : Int) != (0 : Int)) (Out.done AE.ret { slots := [some (Value.int IntKind.i64 (3 : Int))], heap := [] }) (Out.done AE.ret { slots := [some (Value.int IntKind.i64 (0 : Int))], heap := [] }))))))))))) := by kernel_rfl
def x_cbid (m : Nat) (g : Nat → List Value) (need : Int) (a : Int) (p : Int) (o : ByteArray) (v : ByteArray) (t : Int) (w : Int) (s : ByteArray) (hd : Int) : Int := (bif qE (wsOf m fun j => g j) need != (0 : Int) then (qE (wsOf m fun j => g j) need) else (bif decide (a < (1 : Int)) then (3 : Int) else (bif decide (a > (1000000 : Int)) then (3 : Int) else (bif decide (p < (1 : Int)) then (7 : Int) else (bif decide (p > (3 : Int)) then (7 : Int) else (bif decide ((↑(ByteArray.size o) : Int) > (64 : Int)) then (2 : Int) else (bif decide ((↑(ByteArray.size v) : Int) > (64 : Int)) then (2 : Int) else (bif cck ((t, w), s) != (0 : Int) then (cck ((t, w), s)) else (bif shrV IntKind.u64 hd (↑m : Int) != (0 : Int) then (3 : Int) else (0 : Int))))))))))
def g_cbid : List CA → Option Value
  | [.rows _ m g, .val (.int .i64 need), .val (.agg ⟨[.int .i64 a, .int .i64 p, .string o, .string v, .int .i64 t, .int .i64 w, .string s, .int .u64 hd]⟩)] => some (.int .i64 (x_cbid m g need a p o v t w s hd))
  | _ => none
theorem q_cbid : QOk K12.P 18 (listC [.agg [.rows wtK, .val], .one .val] g_cbid) := list_q K12_ok Try.func18 rfl rfl (no_loops rfl) fun cas r hb hk h => by
  unfold g_cbid at h
  split at h
  · rename_i sh0 m g need a p o v t w s hd
    obtain ⟨rfl, _, _, -⟩ := hk
    obtain ⟨hbm, -⟩ := hb
    cases h
    refine ⟨rfl, ?_⟩
    show (evV K12 noL _ [.agg ⟨[.slice (some ⟨0, 0, some 0⟩) m m, .int .i64 need]⟩, .agg ⟨[.int .i64 a, .int .i64 p, .string o, .string v, .int .i64 t, .int .i64 w, .string s, .int .u64 hd]⟩] [.recs wtK m g]).sat _
    rw [run_cbid]
    exact sat_ask (by first | omega | exact ⟨Nat.le_refl _, by assumption⟩ | exact ⟨rfl, rfl⟩ | simp_all) (sat_tst (fun h0 => leaf_v (by simp only [x_cbid, h0, cond_true])) (fun h0 => sat_tst (fun h1 => leaf_v (by simp only [x_cbid, h0, h1, cond_true, cond_false])) (fun h1 => sat_tst (fun h2 => leaf_v (by simp only [x_cbid, h0, h1, h2, cond_true, cond_false])) (fun h2 => sat_tst (fun h3 => leaf_v (by simp only [x_cbid, h0, h1, h2, h3, cond_true, cond_false])) (fun h3 => sat_tst (fun h4 => leaf_v (by simp only [x_cbid, h0, h1, h2, h3, h4, cond_true, cond_false])) (fun h4 => sat_tst (fun h5 => leaf_v (by simp only [x_cbid, h0, h1, h2, h3, h4, h5, cond_true, cond_false])) (fun h5 => sat_tst (fun h6 => leaf_v (by simp only [x_cbid, h0, h1, h2, h3, h4, h5, h6, cond_true, cond_false])) (fun h6 => sat_tst (fun h7 => leaf_v (by simp only [x_cbid, h0, h1, h2, h3, h4, h5, h6, h7, cond_true, cond_false])) (fun h7 => sat_ask (by first | omega | exact ⟨Nat.le_refl _, by assumption⟩ | exact ⟨rfl, rfl⟩ | simp_all) (sat_tst (fun h8 => leaf_v (by simp only [x_cbid, h0, h1, h2, h3, h4, h5, h6, h7, h8, cond_true, cond_false])) (fun h8 => leaf_v (by simp only [x_cbid, h0, h1, h2, h3, h4, h5, h6, h7, h8, cond_false]))))))))))))
  · cases h
theorem run_bat (a : Int) (p : Int) (o : ByteArray) (v : ByteArray) (t : Int) (w : Int) (s : ByteArray) (hd : Int) (m : Nat) (g : Nat → List Value) (need : Int) (no : Int) : evV K12 noL Try.f45 [.agg ⟨[.int .i64 a, .int .i64 p, .string o, .string v, .int .i64 t, .int .i64 w, .string s, .int .u64 hd, .slice (some ⟨0, 0, some 0⟩) m m, .int .i64 need, .int .i64 no]⟩] [.recs wtK m g] = Out.done AE.ret { slots := [some (Value.agg { toList := [Value.int IntKind.i64 a, Value.int IntKind.i64 no] })], heap := [] } := by kernel_rfl
def x0_bat (a : Int) : Int := (a)
def x1_bat (no : Int) : Int := (no)
def g_bat : List CA → Option Value
  | [.val (.int .i64 a), .val (.int .i64 _), .val (.string _), .val (.string _), .val (.int .i64 _), .val (.int .i64 _), .val (.string _), .val (.int .u64 _), .rows _ _ _, .val (.int .i64 _), .val (.int .i64 no)] => some (.agg ⟨[.int .i64 (x0_bat a), .int .i64 (x1_bat no)]⟩)
  | _ => none
theorem q_bat : QOk K12.P 45 (listC [.agg [.val, .val, .val, .val, .val, .val, .val, .val, .rows wtK, .val, .val]] g_bat) := list_q K12_ok Try.func45 rfl rfl (no_loops rfl) fun cas r hb hk h => by
  unfold g_bat at h
  split at h
  · rename_i a p o v t w s hd sh0 m g need no
    obtain ⟨_, _, _, _, _, _, _, _, rfl, _, _, -⟩ := hk
    obtain ⟨hbm, -⟩ := hb
    cases h
    refine ⟨rfl, ?_⟩
    show (evV K12 noL _ [.agg ⟨[.int .i64 a, .int .i64 p, .string o, .string v, .int .i64 t, .int .i64 w, .string s, .int .u64 hd, .slice (some ⟨0, 0, some 0⟩) m m, .int .i64 need, .int .i64 no]⟩] [.recs wtK m g]).sat _
    rw [run_bat]
    exact leaf_v rfl
  · cases h
theorem run_rcc (t : Int) (w : Int) (s : ByteArray) : evV K12 noL Try.f31 [.agg ⟨[.int .i64 t, .int .i64 w, .string s]⟩] [] = tst (x_rsc t w == (0 : Int)) (tst (decide ((↑(ByteArray.size s) : Int) > (64 : Int))) (Out.done AE.ret { slots := [some (Value.int IntKind.i64 (2 : Int))], heap := [] }) (Out.done AE.ret { slots := [some (Value.int IntKind.i64 (x_rsc t w))], heap := [] })) (Out.done AE.ret { slots := [some (Value.int IntKind.i64 (x_rsc t w))], heap := [] }) := by kernel_rfl
def x_rcc (t : Int) (w : Int) (s : ByteArray) : Int := (bif x_rsc t w == (0 : Int) then (bif decide ((↑(ByteArray.size s) : Int) > (64 : Int)) then (2 : Int) else (x_rsc t w)) else (x_rsc t w))
def g_rcc : List CA → Option Value
  | [.val (.agg ⟨[.int .i64 t, .int .i64 w, .string s]⟩)] => some (.int .i64 (x_rcc t w s))
  | _ => none
theorem q_rcc : QOk K12.P 31 (listC [.one .val] g_rcc) := list_q K12_ok Try.func31 rfl rfl (no_loops rfl) fun cas r hb hk h => by
  unfold g_rcc at h
  split at h
  · rename_i t w s
    cases h
    refine ⟨rfl, ?_⟩
    show (evV K12 noL _ [.agg ⟨[.int .i64 t, .int .i64 w, .string s]⟩] []).sat _
    rw [run_rcc]
    exact sat_tst (fun h0 => sat_tst (fun h1 => leaf_v (by simp only [x_rcc, h0, h1, cond_true])) (fun h1 => leaf_v (by simp only [x_rcc, h0, h1, cond_true, cond_false]))) (fun h0 => leaf_v (by simp only [x_rcc, h0, cond_false]))
  · cases h
-- @end
-- @file xh.chain
noncomputable def K13 : Kn := ((((((K12.addQ 26 (listC [.one .val, .one .val, .one .val] g_block)).addQ 25 (listC [.one .val, .one .val, .one .val] g_prep)).addQ 11 (listC [.one .val] g_cseat)).addQ 9 (listC [.one .val] g_cvote)).addQ 18 (listC [.agg [.rows wtK, .val], .one .val] g_cbid)).addQ 45 (listC [.agg [.val, .val, .val, .val, .val, .val, .val, .val, .rows wtK, .val, .val]] g_bat)).addQ 31 (listC [.one .val] g_rcc)
theorem K13_ok : K13.Ok := ((((((K12_ok.addQ q_block).addQ q_prep).addQ q_cseat).addQ q_cvote).addQ q_cbid).addQ q_bat).addQ q_rcc
-- @end
end Go.Proofs.Ytbmbnbhedalcnab
