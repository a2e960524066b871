/- Clusters: what is to be shown. Small functions of clusters: contracts. The form of a step: contract. The checks of clusters, list by list: what is to be shown. The checks of clusters, list by list: their loops. The checks of clusters, list by list: contracts. Lists of their own: contracts of slices.Clone. -/
import Derived.Test.YtpkckgdpdnkbeaaDb
namespace Go.Proofs.Ytpkckgdpdnkbeaa
open Go.RowKit
/-- an operation's cells, a term's -/
abbrev asK : List LK := [.kInt .i64, .kInt .i64, .kInt .i64, .kStr, .kInt .i64, .kInt .i64, .kStr, .kInt .u64]
abbrev tmK : List LK := [.kInt .i64, .kInt .i64]
theorem run_fits (tb : Int) (te : Int) (done : Bool) (clk : Int) : evV K22 noL Try.f58 [.agg ⟨[.int .i64 tb, .int .i64 te]⟩, .bool done, .int .i64 clk] [] = tst (decide (tb < (1 : Int))) (Out.done AE.ret { slots := [some (Value.bool false)], heap := [] }) (tst (decide (tb > clk)) (Out.done AE.ret { slots := [some (Value.bool false)], heap := [] }) (tst (!done) (Out.done AE.ret { slots := [some (Value.bool (te == (0 : Int)))], heap := [] }) (tst (decide (tb ≤ te)) (Out.done AE.ret { slots := [some (Value.bool (decide (te ≤ clk)))], heap := [] }) (Out.done AE.ret { slots := [some (Value.bool false)], heap := [] })))) := by kernel_rfl
def x_fits (tb : Int) (te : Int) (done : Bool) (clk : Int) : Bool := (bif decide (tb < (1 : Int)) then (false) else (bif decide (tb > clk) then (false) else (bif !done then (te == (0 : Int)) else (bif decide (tb ≤ te) then (decide (te ≤ clk)) else (false)))))
def g_fits : List CA → Option Value
  | [.val (.agg ⟨[.int .i64 tb, .int .i64 te]⟩), .val (.bool done), .val (.int .i64 clk)] => some (.bool (x_fits tb te done clk))
  | _ => none
theorem q_fits : QOk K22.P 58 (listC [.one .val, .one .val, .one .val] g_fits) := list_q K22_ok Try.func58 rfl rfl (no_loops rfl) fun cas r hb hk h => by
  unfold g_fits at h
  split at h
  · rename_i tb te done clk
    cases h
    refine ⟨rfl, ?_⟩
    show (evV K22 noL _ [.agg ⟨[.int .i64 tb, .int .i64 te]⟩, .bool done, .int .i64 clk] []).sat _
    rw [run_fits]
    exact sat_tst (fun h0 => leaf_v (by simp only [x_fits, h0, cond_true])) (fun h0 => sat_tst (fun h1 => leaf_v (by simp only [x_fits, h0, h1, cond_true, cond_false])) (fun h1 => sat_tst (fun h2 => leaf_v (by simp only [x_fits, h0, h1, h2, cond_true, cond_false])) (fun h2 => sat_tst (fun h3 => leaf_v (by simp only [x_fits, h0, h1, h2, h3, cond_true, cond_false])) (fun h3 => leaf_v (by simp only [x_fits, h0, h1, h2, h3, cond_false])))))
  · cases h
theorem run_begins (kd : Int) : evV K22 noL Try.f80 [.int .i64 kd] [] = tst (kd == (1 : Int)) (Out.done AE.ret { slots := [some (Value.bool true)], heap := [] }) (Out.done AE.ret { slots := [some (Value.bool (kd == (2 : Int)))], heap := [] }) := by kernel_rfl
def x_begins (kd : Int) : Bool := (bif kd == (1 : Int) then (true) else (kd == (2 : Int)))
def g_begins : List CA → Option Value
  | [.val (.int .i64 kd)] => some (.bool (x_begins kd))
  | _ => none
theorem q_begins : QOk K22.P 80 (listC [.one .val] g_begins) := list_q K22_ok Try.func80 rfl rfl (no_loops rfl) fun cas r hb hk h => by
  unfold g_begins at h
  split at h
  · rename_i kd
    cases h
    refine ⟨rfl, ?_⟩
    show (evV K22 noL _ [.int .i64 kd] []).sat _
    rw [run_begins]
    exact sat_tst (fun h0 => leaf_v (by simp only [x_begins, h0, cond_true])) (fun h0 => leaf_v (by simp only [x_begins, h0, cond_false]))
  · cases h
theorem run_cvot (m : Nat) (w : Nat → List Value) (need : Int) (a : Nat) (nd : Nat → List Value) (b : Nat) (ak : Nat → List Value) (c : Nat) (tm : Nat → List Value) (d : Nat) (nt : Nat → List Value) (clk : Int) : evV K22 noL Try.f34 [.agg ⟨[.slice (some ⟨0, 0, some 0⟩) m m, .int .i64 need, .slice (some ⟨1, 0, some 0⟩) a a, .slice (some ⟨2, 0, some 0⟩) b b, .slice (some ⟨3, 0, some 0⟩) c c, .slice (some ⟨4, 0, some 0⟩) d d, .int .i64 clk]⟩] [.recs wtK m w, .recs cpK a nd, .recs asK b ak, .recs tmK c tm, .recs msK d nt] = Out.ask (m ≤ m ∧ m ≤ (140737488355328 : Nat)) (Out.done AE.ret { slots := [some (Value.int IntKind.i64 (qE (wsOf m fun j => w j) need))], heap := [] }) := by kernel_rfl
def x_cvot (m : Nat) (w : Nat → List Value) (need : Int) : Int := (qE (wsOf m fun j => w j) need)
def g_cvot : List CA → Option Value
  | [.rows _ m w, .val (.int .i64 need), .rows _ _ _, .rows _ _ _, .rows _ _ _, .rows _ _ _, .val (.int .i64 _)] => some (.int .i64 (x_cvot m w need))
  | _ => none
theorem q_cvot : QOk K22.P 34 (listC [.agg [.rows wtK, .val, .rows cpK, .rows asK, .rows tmK, .rows msK, .val]] g_cvot) := list_q K22_ok Try.func34 rfl rfl (no_loops rfl) fun cas r hb hk h => by
  unfold g_cvot at h
  split at h
  · rename_i sh0 m w need sh0 a nd sh0 b ak sh0 c tm sh0 d nt clk
    have e0 := kind_rows (i := 0) hk rfl rfl
    have hbm := bnd_rows (i := 0) hb rfl
    subst e0
    have e0 := kind_rows (i := 2) hk rfl rfl
    have hba := bnd_rows (i := 2) hb rfl
    subst e0
    have e0 := kind_rows (i := 3) hk rfl rfl
    have hbb := bnd_rows (i := 3) hb rfl
    subst e0
    have e0 := kind_rows (i := 4) hk rfl rfl
    have hbc := bnd_rows (i := 4) hb rfl
    subst e0
    have e0 := kind_rows (i := 5) hk rfl rfl
    have hbd := bnd_rows (i := 5) hb rfl
    subst e0
    cases h
    refine ⟨rfl, ?_⟩
    show (evV K22 noL _ [.agg ⟨[.slice (some ⟨0, 0, some 0⟩) m m, .int .i64 need, .slice (some ⟨1, 0, some 0⟩) a a, .slice (some ⟨2, 0, some 0⟩) b b, .slice (some ⟨3, 0, some 0⟩) c c, .slice (some ⟨4, 0, some 0⟩) d d, .int .i64 clk]⟩] [.recs wtK m w, .recs cpK a nd, .recs asK b ak, .recs tmK c tm, .recs msK d nt]).sat _
    rw [run_cvot]
    exact sat_ask (by first | omega | exact ⟨Nat.le_refl _, by assumption⟩ | exact ⟨rfl, rfl⟩ | simp_all) (leaf_v rfl)
  · cases h
theorem run_cclk (m : Nat) (w : Nat → List Value) (need : Int) (a : Nat) (nd : Nat → List Value) (b : Nat) (ak : Nat → List Value) (c : Nat) (tm : Nat → List Value) (d : Nat) (nt : Nat → List Value) (clk : Int) : evV K22 noL Try.f38 [.agg ⟨[.slice (some ⟨0, 0, some 0⟩) m m, .int .i64 need, .slice (some ⟨1, 0, some 0⟩) a a, .slice (some ⟨2, 0, some 0⟩) b b, .slice (some ⟨3, 0, some 0⟩) c c, .slice (some ⟨4, 0, some 0⟩) d d, .int .i64 clk]⟩] [.recs wtK m w, .recs cpK a nd, .recs asK b ak, .recs tmK c tm, .recs msK d nt] = tst (decide (clk < (0 : Int))) (Out.done AE.ret { slots := [some (Value.int IntKind.i64 (3 : Int))], heap := [] }) (tst (decide (clk > (1000000 : Int))) (Out.done AE.ret { slots := [some (Value.int IntKind.i64 (3 : Int))], heap := [] }) (Out.done AE.ret { slots := [some (Value.int IntKind.i64 (0 : Int))], heap := [] })) := by kernel_rfl
def x_cclk (clk : Int) : Int := (bif decide (clk < (0 : Int)) then (3 : Int) else (bif decide (clk > (1000000 : Int)) then (3 : Int) else (0 : Int)))
def g_cclk : List CA → Option Value
  | [.rows _ _ _, .val (.int .i64 _), .rows _ _ _, .rows _ _ _, .rows _ _ _, .rows _ _ _, .val (.int .i64 clk)] => some (.int .i64 (x_cclk clk))
  | _ => none
theorem q_cclk : QOk K22.P 38 (listC [.agg [.rows wtK, .val, .rows cpK, .rows asK, .rows tmK, .rows msK, .val]] g_cclk) := list_q K22_ok Try.func38 rfl rfl (no_loops rfl) fun cas r hb hk h => by
  unfold g_cclk at h
  split at h
  · rename_i sh0 m w need sh0 a nd sh0 b ak sh0 c tm sh0 d nt clk
    have e0 := kind_rows (i := 0) hk rfl rfl
    have hbm := bnd_rows (i := 0) hb rfl
    subst e0
    have e0 := kind_rows (i := 2) hk rfl rfl
    have hba := bnd_rows (i := 2) hb rfl
    subst e0
    have e0 := kind_rows (i := 3) hk rfl rfl
    have hbb := bnd_rows (i := 3) hb rfl
    subst e0
    have e0 := kind_rows (i := 4) hk rfl rfl
    have hbc := bnd_rows (i := 4) hb rfl
    subst e0
    have e0 := kind_rows (i := 5) hk rfl rfl
    have hbd := bnd_rows (i := 5) hb rfl
    subst e0
    cases h
    refine ⟨rfl, ?_⟩
    show (evV K22 noL _ [.agg ⟨[.slice (some ⟨0, 0, some 0⟩) m m, .int .i64 need, .slice (some ⟨1, 0, some 0⟩) a a, .slice (some ⟨2, 0, some 0⟩) b b, .slice (some ⟨3, 0, some 0⟩) c c, .slice (some ⟨4, 0, some 0⟩) d d, .int .i64 clk]⟩] [.recs wtK m w, .recs cpK a nd, .recs asK b ak, .recs tmK c tm, .recs msK d nt]).sat _
    rw [run_cclk]
    exact sat_tst (fun h0 => leaf_v (by simp only [x_cclk, h0, cond_true])) (fun h0 => sat_tst (fun h1 => leaf_v (by simp only [x_cclk, h0, h1, cond_true, cond_false])) (fun h1 => leaf_v (by simp only [x_cclk, h0, h1, cond_false])))
  · cases h
noncomputable def K23 : Kn := (((K22.addQ 58 (listC [.one .val, .one .val, .one .val] g_fits)).addQ 80 (listC [.one .val] g_begins)).addQ 34 (listC [.agg [.rows wtK, .val, .rows cpK, .rows asK, .rows tmK, .rows msK, .val]] g_cvot)).addQ 38 (listC [.agg [.rows wtK, .val, .rows cpK, .rows asK, .rows tmK, .rows msK, .val]] g_cclk)
theorem K23_ok : K23.Ok := (((K22_ok.addQ q_fits).addQ q_begins).addQ q_cvot).addQ q_cclk
theorem run_cstep (kd : Int) (n : Int) (dt : ByteArray) : evV K23 noL Try.f66 [.agg ⟨[.int .i64 kd, .int .i64 n, .string dt]⟩] [] = tst (decide (kd < (1 : Int))) (Out.done AE.ret { slots := [some (Value.int IntKind.i64 (7 : Int))], heap := [] }) (tst (decide (kd > (5 : Int))) (Out.done AE.ret { slots := [some (Value.int IntKind.i64 (7 : Int))], heap := [] }) (tst (!ByteArray.toList dt == []) (tst (kd != (2 : Int)) (Out.done AE.ret { slots := [some (Value.int IntKind.i64 (1 : Int))], heap := [] }) (tst (n != (0 : Int)) (tst (x_begins kd) (Out.done AE.ret { slots := [some (Value.int IntKind.i64 (1 : Int))], heap := [] }) (Out.done AE.ret { slots := [some (Value.int IntKind.i64 (0 : Int))], heap := [] })) (Out.done AE.ret { slots := [some (Value.int IntKind.i64 (0 : Int))], heap := [] }))) (tst (n != (0 : Int)) (tst (x_begins kd) (Out.done AE.ret { slots := [some (Value.int IntKind.i64 (1 : Int))], heap := [] }) (Out.done AE.ret { slots := [some (Value.int IntKind.i64 (0 : Int))], heap := [] })) (Out.done AE.ret { slots := [some (Value.int IntKind.i64 (0 : Int))], heap := [] })))) := by kernel_rfl
def x_cstep (kd : Int) (n : Int) (dt : ByteArray) : Int := (bif decide (kd < (1 : Int)) then (7 : Int) else (bif decide (kd > (5 : Int)) then (7 : Int) else (bif !ByteArray.toList dt == [] then (bif kd != (2 : Int) then (1 : Int) else (bif n != (0 : Int) then (bif x_begins kd then (1 : Int) else (0 : Int)) else (0 : Int))) else (bif n != (0 : Int) then (bif x_begins kd then (1 : Int) else (0 : Int)) else (0 : Int)))))
def g_cstep : List CA → Option Value
  | [.val (.agg ⟨[.int .i64 kd, .int .i64 n, .string dt]⟩)] => some (.int .i64 (x_cstep kd n dt))
  | _ => none
theorem q_cstep : QOk K23.P 66 (listC [.one .val] g_cstep) := list_q K23_ok Try.func66 rfl rfl (no_loops rfl) fun cas r hb hk h => by
  unfold g_cstep at h
  split at h
  · rename_i kd n dt
    cases h
    refine ⟨rfl, ?_⟩
    show (evV K23 noL _ [.agg ⟨[.int .i64 kd, .int .i64 n, .string dt]⟩] []).sat _
    rw [run_cstep]
    exact sat_tst (fun h0 => leaf_v (by simp only [x_cstep, h0, cond_true])) (fun h0 => sat_tst (fun h1 => leaf_v (by simp only [x_cstep, h0, h1, cond_true, cond_false])) (fun h1 => sat_tst (fun h2 => sat_tst (fun h3 => leaf_v (by simp only [x_cstep, h0, h1, h2, h3, cond_true, cond_false])) (fun h3 => sat_tst (fun h4 => sat_tst (fun h5 => leaf_v (by simp only [x_cstep, h0, h1, h2, h3, h4, h5, cond_true, cond_false])) (fun h5 => leaf_v (by simp only [x_cstep, h0, h1, h2, h3, h4, h5, cond_true, cond_false]))) (fun h4 => leaf_v (by simp only [x_cstep, h0, h1, h2, h3, h4, cond_true, cond_false])))) (fun h2 => sat_tst (fun h3 => sat_tst (fun h4 => leaf_v (by simp only [x_cstep, h0, h1, h2, h3, h4, cond_true, cond_false])) (fun h4 => leaf_v (by simp only [x_cstep, h0, h1, h2, h3, h4, cond_true, cond_false]))) (fun h3 => leaf_v (by simp only [x_cstep, h0, h1, h2, h3, cond_false])))))
  · cases h
noncomputable def K24 : Kn := K23.addQ 66 (listC [.one .val] g_cstep)
theorem K24_ok : K24.Ok := K23_ok.addQ q_cstep
/-- a cluster's cells -/
abbrev clV (m : Nat) (need : Int) (a b c d : Nat) (clk : Int) : List Value := [.slice (some ⟨0, 0, some 0⟩) m m, .int .i64 need, .slice (some ⟨1, 0, some 0⟩) a a, .slice (some ⟨2, 0, some 0⟩) b b, .slice (some ⟨3, 0, some 0⟩) c c, .slice (some ⟨4, 0, some 0⟩) d d, .int .i64 clk]
def keepNo : AE → List Nat
  | .normal => [15, 16, 17]
  | .exit _ => []
  | .ret => [2]
def keepAs : AE → List Nat
  | .normal => [1, 20, 21, 22]
  | .exit _ => []
  | .ret => [2]
def keepNe : AE → List Nat
  | .normal => [1, 11, 12, 13]
  | .exit _ => []
  | .ret => [2]
theorem bne_f2 {a b : Int} (h : (a != b) = false) : a = b := by simpa using h
/-- the first error -/
def fstE (e : Nat → Int) : Nat → Int
  | 0 => 0
  | n + 1 => bif fstE e n != 0 then fstE e n else e n
theorem fstE_all {e : Nat → Int} : ∀ {n : Nat}, (∀ i, i < n → e i = 0) → fstE e n = 0
  | 0, _ => rfl
  | n + 1, h => by
    unfold fstE
    rw [fstE_all (n := n) fun i hi => h i (by omega), h n (by omega)]
    rfl
theorem fstE_at {e : Nat → Int} {j : Nat} (h : ∀ i, i < j → e i = 0) (hj : e j ≠ 0) : ∀ {n : Nat}, j < n → fstE e n = e j
  | n + 1, hn => by
    unfold fstE
    by_cases c : j = n
    · subst c
      rw [fstE_all h]
      rfl
    · rw [fstE_at h hj (n := n) (by omega), bne_iff_ne.2 hj]
      rfl
theorem fstE_zero {e : Nat → Int} : ∀ {n : Nat}, fstE e n = 0 → ∀ i, i < n → e i = 0
  | n + 1, h, i, hi => by
    have h0 : fstE e n = 0 := by
      unfold fstE at h
      cases c : (fstE e n != 0) with
      | true => rw [c] at h; exact h
      | false => simpa using c
    by_cases c : i = n
    · subst c
      unfold fstE at h
      rw [h0] at h
      exact h
    · exact fstE_zero h0 i (by omega)
def noE (nd : Nat → List Value) (j : Nat) : Int := cck ((intV (hdV (nd j)), intV (hdV (tlV (nd j)))), strV (hdV (tlV (tlV (nd j)))))
def aChk (m : Nat) (w : Nat → List Value) (need : Int) (l : List Value) : Int := x_achk m (fun j => w j) need (intV (hdV l)) (intV (hdV (tlV l))) (intV (hdV (tlV (tlV l)))) (strV (hdV (tlV (tlV (tlV l))))) (intV (hdV (tlV (tlV (tlV (tlV l)))))) (intV (hdV (tlV (tlV (tlV (tlV (tlV l))))))) (strV (hdV (tlV (tlV (tlV (tlV (tlV (tlV l)))))))) (intV (hdV (tlV (tlV (tlV (tlV (tlV (tlV (tlV l)))))))))
def aFit (t l : List Value) (clk : Int) : Bool := x_fits (intV (hdV t)) (intV (hdV (tlV t))) (intV (hdV (tlV (tlV l))) == (3 : Int)) clk
def mChk (l : List Value) : Int := x_wchk (intV (hdV l)) (intV (hdV (tlV l))) (intV (hdV (tlV (tlV l)))) (intV (hdV (tlV (tlV (tlV l))))) (intV (hdV (tlV (tlV (tlV (tlV l)))))) (strV (hdV (tlV (tlV (tlV (tlV (tlV l)))))))
def asE (m : Nat) (w : Nat → List Value) (need : Int) (ak tm : Nat → List Value) (clk : Int) (j : Nat) : Int := bif intV (hdV (ak j)) != (j : Int) then 1 else bif aChk m w need (ak j) != 0 then aChk m w need (ak j) else bif !aFit (tm j) (ak j) clk then 4 else 0
def neE (a b : Nat) (nt : Nat → List Value) (j : Nat) : Int := bif mChk (nt j) != 0 then mChk (nt j) else bif decide (intV (hdV (tlV (tlV (nt j)))) ≥ (a : Int)) then 3 else bif decide (intV (hdV (tlV (nt j))) ≥ (b : Int)) then 3 else 0
theorem run_noB (m : Nat) (w : Nat → List Value) (need : Int) (a : Nat) (nd : Nat → List Value) (b : Nat) (ak : Nat → List Value) (c : Nat) (tm : Nat → List Value) (d : Nat) (nt : Nat → List Value) (clk : Int) (j : Nat) : ev K24 noL (bodyOf Try.f35 0) ⟨mkSlots 27 [15, 16, 17] [.slice (some ⟨1, 0, some 0⟩) a a, .int .i64 a, .int .i64 j], [.recs wtK m w, .recs cpK a nd, .recs asK b ak, .recs tmK c tm, .recs msK d nt, .cells 30 (clV m need a b c d clk)]⟩ (pkG 27 keepNo 6) = tst (decide ((↑j : Int) < (↑a : Int))) (Out.ask ((0 : Int) ≤ (↑j : Int) ∧ (↑j : Int) < (↑a : Int)) (Out.ask (j < a) (tst (cck ((intV (hdV (nd j)), intV (hdV (tlV (nd j)))), strV (hdV (tlV (tlV (nd j))))) != (0 : Int)) (Out.done AE.ret { slots := [some (Value.int IntKind.i64 (cck ((intV (hdV (nd j)), intV (hdV (tlV (nd j)))), strV (hdV (tlV (tlV (nd j)))))))], heap := [AObj.recs wtK m w, AObj.recs cpK a nd, AObj.recs asK b ak, AObj.recs tmK c tm, AObj.recs msK d nt, AObj.cells (30 : TypeId) [Value.slice (some { block := (0 : Nat), off := (0 : Nat), spot := some (0 : Nat) }) m m, Value.int IntKind.i64 need, Value.slice (some { block := (1 : Nat), off := (0 : Nat), spot := some (0 : Nat) }) a a, Value.slice (some { block := (2 : Nat), off := (0 : Nat), spot := some (0 : Nat) }) b b, Value.slice (some { block := (3 : Nat), off := (0 : Nat), spot := some (0 : Nat) }) c c, Value.slice (some { block := (4 : Nat), off := (0 : Nat), spot := some (0 : Nat) }) d d, Value.int IntKind.i64 clk]] }) (Out.done AE.normal { slots := [some (Value.slice (some { block := (1 : Nat), off := (0 : Nat), spot := some (0 : Nat) }) a a), some (Value.int IntKind.i64 (↑a : Int)), some (Value.int IntKind.i64 (IntKind.wrap IntKind.i64 ((↑j : Int) + (1 : Int))))], heap := [AObj.recs wtK m w, AObj.recs cpK a nd, AObj.recs asK b ak, AObj.recs tmK c tm, AObj.recs msK d nt, AObj.cells (30 : TypeId) [Value.slice (some { block := (0 : Nat), off := (0 : Nat), spot := some (0 : Nat) }) m m, Value.int IntKind.i64 need, Value.slice (some { block := (1 : Nat), off := (0 : Nat), spot := some (0 : Nat) }) a a, Value.slice (some { block := (2 : Nat), off := (0 : Nat), spot := some (0 : Nat) }) b b, Value.slice (some { block := (3 : Nat), off := (0 : Nat), spot := some (0 : Nat) }) c c, Value.slice (some { block := (4 : Nat), off := (0 : Nat), spot := some (0 : Nat) }) d d, Value.int IntKind.i64 clk]] })))) (Out.done (AE.exit (0 : Nat)) { slots := [], heap := [AObj.recs wtK m w, AObj.recs cpK a nd, AObj.recs asK b ak, AObj.recs tmK c tm, AObj.recs msK d nt, AObj.cells (30 : TypeId) [Value.slice (some { block := (0 : Nat), off := (0 : Nat), spot := some (0 : Nat) }) m m, Value.int IntKind.i64 need, Value.slice (some { block := (1 : Nat), off := (0 : Nat), spot := some (0 : Nat) }) a a, Value.slice (some { block := (2 : Nat), off := (0 : Nat), spot := some (0 : Nat) }) b b, Value.slice (some { block := (3 : Nat), off := (0 : Nat), spot := some (0 : Nat) }) c c, Value.slice (some { block := (4 : Nat), off := (0 : Nat), spot := some (0 : Nat) }) d d, Value.int IntKind.i64 clk]] }) := by kernel_rfl
def gNoL (vs : List Value) (H : List AObj) (k : AE → List Value → List AObj → Out) : Out :=
  match H with
  | [.recs _ m w, .recs _ a nd, .recs _ b ak, .recs _ c tm, .recs _ d nt, .cells _ [_, .int .i64 need, _, _, _, _, .int .i64 clk]] => .ask (vs = [.slice (some ⟨1, 0, some 0⟩) a a, .int .i64 a, .int .i64 0] ∧ H = [.recs wtK m w, .recs cpK a nd, .recs asK b ak, .recs tmK c tm, .recs msK d nt, .cells 30 (clV m need a b c d clk)] ∧ a ≤ 140737488355328) (tst (fstE (noE nd) a != 0) (k .ret [.int .i64 (fstE (noE nd) a)] H) (k (.exit 0) [] H))
  | _ => .bad
def lNo : Nat → Option LCon := oneL 4 (lspec 27 keepNo 6 gNoL)
theorem loop_no : LOk K24.P (bodyOf Try.f35 0) (lspec 27 keepNo 6 gNoL) := lspec_ok K24_ok (L := noL) (fun c' _ F h => by cases h) fun Φ vs H k hm0 h => by
  unfold gNoL at h
  split at h
  · rename_i s0 m w s1 a nd s2 b ak s3 c tm s4 d nt t v0 need v1 v2 v3 v4 clk
    obtain ⟨⟨rfl, e, hb⟩, h⟩ := h
    cases e
    skip
    refine ⟨{j : Nat // j ≤ a ∧ ∀ i, i < j → (noE nd) i = 0}, fun i => [.slice (some ⟨1, 0, some 0⟩) a a, .int .i64 a, .int .i64 i.1], fun _ => [.recs wtK m w, .recs cpK a nd, .recs asK b ak, .recs tmK c tm, .recs msK d nt, .cells 30 (clV m need a b c d clk)], fun i => a - i.1, ⟨0, by omega, fun i hi => by omega⟩, rfl, rfl, ?_⟩
    rintro ⟨j, hj, hz⟩
    show (ev K24 noL _ ⟨mkSlots 27 [15, 16, 17] [.slice (some ⟨1, 0, some 0⟩) a a, .int .i64 a, .int .i64 j], [.recs wtK m w, .recs cpK a nd, .recs asK b ak, .recs tmK c tm, .recs msK d nt, .cells 30 (clV m need a b c d clk)]⟩ (pkG 27 keepNo 6)).sat _
    rw [run_noB]
    refine sat_tst (fun ht => ?_) (fun ht => ?_)
    · have hlt : j < a := by have := of_decide_eq_true ht; omega
      have i1 : (0 : Int) ≤ (j : Int) ∧ (j : Int) < (a : Int) := ⟨by omega, by omega⟩
      have ret : ∀ x, x = (noE nd) j → x ≠ 0 → ∃ vs, [some (Value.int .i64 x)] = someL vs ∧ (k .ret vs [.recs wtK m w, .recs cpK a nd, .recs asK b ak, .recs tmK c tm, .recs msK d nt, .cells 30 (clV m need a b c d clk)]).sat Φ := fun x hx hx0 => by
        subst hx
        have ef := fstE_at hz hx0 hlt
        rw [ef] at h
        rcases tst_sat h with ⟨_, h⟩ | ⟨h0, _⟩
        · exact ⟨_, rfl, h⟩
        · exact absurd (eq_of_bne h0) hx0
      have nxt : (noE nd) j = 0 → ∃ i' : {j : Nat // j ≤ a ∧ ∀ i, i < j → (noE nd) i = 0}, [some (.slice (some ⟨1, 0, some 0⟩) a a), some (.int .i64 a), some (.int .i64 (IntKind.wrap IntKind.i64 ((j : Int) + 1)))] = someL [.slice (some ⟨1, 0, some 0⟩) a a, .int .i64 a, .int .i64 i'.1] ∧ ([.recs wtK m w, .recs cpK a nd, .recs asK b ak, .recs tmK c tm, .recs msK d nt, .cells 30 (clV m need a b c d clk)] : List AObj) = [.recs wtK m w, .recs cpK a nd, .recs asK b ak, .recs tmK c tm, .recs msK d nt, .cells 30 (clV m need a b c d clk)] ∧ a - i'.1 < a - j := fun e0 =>
        ⟨⟨j + 1, by omega, fun i hi => by
          by_cases ei : i = j
          · subst ei; exact e0
          · exact hz i (by omega)⟩, by rw [wrap_at hlt hb]; rfl, rfl, by show a - (j + 1) < a - j; omega⟩
      exact sat_ask i1 (sat_ask hlt (sat_tst (fun h1 => ret _ rfl (ne_of_bne h1)) fun h1 => nxt (eq_of_bne h1)))
    · have hge : j = a := by have := of_decide_eq_false ht; omega
      subst hge
      rw [fstE_all hz] at h
      exact ⟨[], rfl, h⟩
  · exact h.elim
theorem lNo_ok : ∀ F, lNo (key (bodyOf Try.f35 0)) = some F → LOk K24.P (bodyOf Try.f35 0) F := fun F h => by
  have hk : lNo (key (bodyOf Try.f35 0)) = some (lspec 27 keepNo 6 gNoL) := by kernel_rfl
  rw [hk] at h
  cases h
  exact loop_no
theorem run_asB (m : Nat) (w : Nat → List Value) (need : Int) (a : Nat) (nd : Nat → List Value) (b : Nat) (ak : Nat → List Value) (c : Nat) (tm : Nat → List Value) (d : Nat) (nt : Nat → List Value) (clk : Int) (j : Nat) : ev K24 noL (bodyOf Try.f36 0) ⟨mkSlots 51 [1, 20, 21, 22] [.pointer (some ⟨5, 0, none⟩), .slice (some ⟨2, 0, some 0⟩) b b, .int .i64 b, .int .i64 j], [.recs wtK m w, .recs cpK a nd, .recs asK b ak, .recs tmK c tm, .recs msK d nt, .cells 30 (clV m need a b c d clk)]⟩ (pkG 51 keepAs 6) = tst (decide ((↑j : Int) < (↑b : Int))) (Out.ask ((0 : Int) ≤ (↑j : Int) ∧ (↑j : Int) < (↑b : Int)) (Out.ask (j < b) (tst (intV (hdV (ak j)) != (↑j : Int)) (Out.done AE.ret { slots := [some (Value.int IntKind.i64 (1 : Int))], heap := [AObj.recs wtK m w, AObj.recs cpK a nd, AObj.recs asK b ak, AObj.recs tmK c tm, AObj.recs msK d nt, AObj.cells (30 : TypeId) [Value.slice (some { block := (0 : Nat), off := (0 : Nat), spot := some (0 : Nat) }) m m, Value.int IntKind.i64 need, Value.slice (some { block := (1 : Nat), off := (0 : Nat), spot := some (0 : Nat) }) a a, Value.slice (some { block := (2 : Nat), off := (0 : Nat), spot := some (0 : Nat) }) b b, Value.slice (some { block := (3 : Nat), off := (0 : Nat), spot := some (0 : Nat) }) c c, Value.slice (some { block := (4 : Nat), off := (0 : Nat), spot := some (0 : Nat) }) d d, Value.int IntKind.i64 clk]] }) (Out.ask (m ≤ m ∧ m ≤ (140737488355328 : Nat)) (tst (x_achk m (fun j => w j) need (intV (hdV (ak j))) (intV (hdV (tlV (ak j)))) (intV (hdV (tlV (tlV (ak j))))) (strV (hdV (tlV (tlV (tlV (ak j)))))) (intV (hdV (tlV (tlV (tlV (tlV (ak j))))))) (intV (hdV (tlV (tlV (tlV (tlV (tlV (ak j)))))))) (strV (hdV (tlV (tlV (tlV (tlV (tlV (tlV (ak j))))))))) (intV (hdV (tlV (tlV (tlV (tlV (tlV (tlV (tlV (ak j)))))))))) != (0 : Int)) (Out.done AE.ret { slots := [some (Value.int IntKind.i64 (x_achk m (fun j => w j) need (intV (hdV (ak j))) (intV (hdV (tlV (ak j)))) (intV (hdV (tlV (tlV (ak j))))) (strV (hdV (tlV (tlV (tlV (ak j)))))) (intV (hdV (tlV (tlV (tlV (tlV (ak j))))))) (intV (hdV (tlV (tlV (tlV (tlV (tlV (ak j)))))))) (strV (hdV (tlV (tlV (tlV (tlV (tlV (tlV (ak j))))))))) (intV (hdV (tlV (tlV (tlV (tlV (tlV (tlV (tlV (ak j))))))))))))], heap := [AObj.recs wtK m w, AObj.recs cpK a nd, AObj.recs asK b ak, AObj.recs tmK c tm, AObj.recs msK d nt, AObj.cells (30 : TypeId) [Value.slice (some { block := (0 : Nat), off := (0 : Nat), spot := some (0 : Nat) }) m m, Value.int IntKind.i64 need, Value.slice (some { block := (1 : Nat), off := (0 : Nat), spot := some (0 : Nat) }) a a, Value.slice (some { block := (2 : Nat), off := (0 : Nat), spot := some (0 : Nat) }) b b, Value.slice (some { block := (3 : Nat), off := (0 : Nat), spot := some (0 : Nat) }) c c, Value.slice (some { block := (4 : Nat), off := (0 : Nat), spot := some (0 : Nat) }) d d, Value.int IntKind.i64 clk]] }) (Out.ask ((0 : Int) ≤ (↑j : Int) ∧ (↑j : Int) < (↑c : Int)) (Out.ask (j < c) (tst (!x_fits (intV (hdV (tm j))) (intV (hdV (tlV (tm j)))) (intV (hdV (tlV (tlV (ak j)))) == (3 : Int)) clk) (Out.done AE.ret { slots := [some (Value.int IntKind.i64 (4 : Int))], heap := [AObj.recs wtK m w, AObj.recs cpK a nd, AObj.recs asK b ak, AObj.recs tmK c tm, AObj.recs msK d nt, AObj.cells (30 : TypeId) [Value.slice (some { block := (0 : Nat), off := (0 : Nat), spot := some (0 : Nat) }) m m, Value.int IntKind.i64 need, Value.slice (some { block := (1 : Nat), off := (0 : Nat), spot := some (0 : Nat) }) a a, Value.slice (some { block := (2 : Nat), off := (0 : Nat), spot := some (0 : Nat) }) b b, Value.slice (some { block := (3 : Nat), off := (0 : Nat), spot := some (0 : Nat) }) c c, Value.slice (some { block := (4 : Nat), off := (0 : Nat), spot := some (0 : Nat) }) d d, Value.int IntKind.i64 clk]] }) (Out.done AE.normal { slots := [some (Value.pointer (some { block := (5 : Nat), off := (0 : Nat) })), some (Value.slice (some { block := (2 : Nat), off := (0 : Nat), spot := some (0 : Nat) }) b b), some (Value.int IntKind.i64 (↑b : Int)), some (Value.int IntKind.i64 (IntKind.wrap IntKind.i64 ((↑j : Int) + (1 : Int))))], heap := [AObj.recs wtK m w, AObj.recs cpK a nd, AObj.recs asK b ak, AObj.recs tmK c tm, AObj.recs msK d nt, AObj.cells (30 : TypeId) [Value.slice (some { block := (0 : Nat), off := (0 : Nat), spot := some (0 : Nat) }) m m, Value.int IntKind.i64 need, Value.slice (some { block := (1 : Nat), off := (0 : Nat), spot := some (0 : Nat) }) a a, Value.slice (some { block := (2 : Nat), off := (0 : Nat), spot := some (0 : Nat) }) b b, Value.slice (some { block := (3 : Nat), off := (0 : Nat), spot := some (0 : Nat) }) c c, Value.slice (some { block := (4 : Nat), off := (0 : Nat), spot := some (0 : Nat) }) d d, Value.int IntKind.i64 clk]] }))))))))) (Out.done (AE.exit (1 : Nat)) { slots := [], heap := [AObj.recs wtK m w, AObj.recs cpK a nd, AObj.recs asK b ak, AObj.recs tmK c tm, AObj.recs msK d nt, AObj.cells (30 : TypeId) [Value.slice (some { block := (0 : Nat), off := (0 : Nat), spot := some (0 : Nat) }) m m, Value.int IntKind.i64 need, Value.slice (some { block := (1 : Nat), off := (0 : Nat), spot := some (0 : Nat) }) a a, Value.slice (some { block := (2 : Nat), off := (0 : Nat), spot := some (0 : Nat) }) b b, Value.slice (some { block := (3 : Nat), off := (0 : Nat), spot := some (0 : Nat) }) c c, Value.slice (some { block := (4 : Nat), off := (0 : Nat), spot := some (0 : Nat) }) d d, Value.int IntKind.i64 clk]] }) := by kernel_rfl
def gAsL (vs : List Value) (H : List AObj) (k : AE → List Value → List AObj → Out) : Out :=
  match H with
  | [.recs _ m w, .recs _ a nd, .recs _ b ak, .recs _ c tm, .recs _ d nt, .cells _ [_, .int .i64 need, _, _, _, _, .int .i64 clk]] => .ask (vs = [.pointer (some ⟨5, 0, none⟩), .slice (some ⟨2, 0, some 0⟩) b b, .int .i64 b, .int .i64 0] ∧ H = [.recs wtK m w, .recs cpK a nd, .recs asK b ak, .recs tmK c tm, .recs msK d nt, .cells 30 (clV m need a b c d clk)] ∧ b ≤ 140737488355328 ∧ c = b ∧ m ≤ 140737488355328) (tst (fstE (asE m w need ak tm clk) b != 0) (k .ret [.int .i64 (fstE (asE m w need ak tm clk) b)] H) (k (.exit 1) [] H))
  | _ => .bad
def lAs : Nat → Option LCon := oneL 6 (lspec 51 keepAs 6 gAsL)
theorem loop_as : LOk K24.P (bodyOf Try.f36 0) (lspec 51 keepAs 6 gAsL) := lspec_ok K24_ok (L := noL) (fun c' _ F h => by cases h) fun Φ vs H k hm0 h => by
  unfold gAsL at h
  split at h
  · rename_i s0 m w s1 a nd s2 b ak s3 c tm s4 d nt t v0 need v1 v2 v3 v4 clk
    obtain ⟨⟨rfl, e, hb, e2, hm⟩, h⟩ := h
    cases e
    have e3 := e2.symm; subst e3
    refine ⟨{j : Nat // j ≤ b ∧ ∀ i, i < j → (asE m w need ak tm clk) i = 0}, fun i => [.pointer (some ⟨5, 0, none⟩), .slice (some ⟨2, 0, some 0⟩) b b, .int .i64 b, .int .i64 i.1], fun _ => [.recs wtK m w, .recs cpK a nd, .recs asK b ak, .recs tmK b tm, .recs msK d nt, .cells 30 (clV m need a b b d clk)], fun i => b - i.1, ⟨0, by omega, fun i hi => by omega⟩, rfl, rfl, ?_⟩
    rintro ⟨j, hj, hz⟩
    show (ev K24 noL _ ⟨mkSlots 51 [1, 20, 21, 22] [.pointer (some ⟨5, 0, none⟩), .slice (some ⟨2, 0, some 0⟩) b b, .int .i64 b, .int .i64 j], [.recs wtK m w, .recs cpK a nd, .recs asK b ak, .recs tmK b tm, .recs msK d nt, .cells 30 (clV m need a b b d clk)]⟩ (pkG 51 keepAs 6)).sat _
    rw [run_asB]
    refine sat_tst (fun ht => ?_) (fun ht => ?_)
    · have hlt : j < b := by have := of_decide_eq_true ht; omega
      have i1 : (0 : Int) ≤ (j : Int) ∧ (j : Int) < (b : Int) := ⟨by omega, by omega⟩
      have ret : ∀ x, x = (asE m w need ak tm clk) j → x ≠ 0 → ∃ vs, [some (Value.int .i64 x)] = someL vs ∧ (k .ret vs [.recs wtK m w, .recs cpK a nd, .recs asK b ak, .recs tmK b tm, .recs msK d nt, .cells 30 (clV m need a b b d clk)]).sat Φ := fun x hx hx0 => by
        subst hx
        have ef := fstE_at hz hx0 hlt
        rw [ef] at h
        rcases tst_sat h with ⟨_, h⟩ | ⟨h0, _⟩
        · exact ⟨_, rfl, h⟩
        · exact absurd (eq_of_bne h0) hx0
      have nxt : (asE m w need ak tm clk) j = 0 → ∃ i' : {j : Nat // j ≤ b ∧ ∀ i, i < j → (asE m w need ak tm clk) i = 0}, [some (.pointer (some ⟨5, 0, none⟩)), some (.slice (some ⟨2, 0, some 0⟩) b b), some (.int .i64 b), some (.int .i64 (IntKind.wrap IntKind.i64 ((j : Int) + 1)))] = someL [.pointer (some ⟨5, 0, none⟩), .slice (some ⟨2, 0, some 0⟩) b b, .int .i64 b, .int .i64 i'.1] ∧ ([.recs wtK m w, .recs cpK a nd, .recs asK b ak, .recs tmK b tm, .recs msK d nt, .cells 30 (clV m need a b b d clk)] : List AObj) = [.recs wtK m w, .recs cpK a nd, .recs asK b ak, .recs tmK b tm, .recs msK d nt, .cells 30 (clV m need a b b d clk)] ∧ b - i'.1 < b - j := fun e0 =>
        ⟨⟨j + 1, by omega, fun i hi => by
          by_cases ei : i = j
          · subst ei; exact e0
          · exact hz i (by omega)⟩, by rw [wrap_at hlt hb]; rfl, rfl, by show b - (j + 1) < b - j; omega⟩
      refine sat_ask i1 (sat_ask hlt (sat_tst (fun h1 => ret 1 (by unfold asE; rw [h1]; rfl) (by decide)) fun h1 => sat_ask ⟨Nat.le_refl _, hm⟩ (sat_tst (fun h2 => ret _ (by unfold asE; rw [h1]; exact (by rw [show (aChk m w need (ak j) != 0) = true from h2]; rfl)) (ne_of_bne h2)) fun h2 => sat_ask i1 (sat_ask hlt (sat_tst (fun h3 => ret 4 (by unfold asE; rw [h1, show (aChk m w need (ak j) != 0) = false from h2, show (!aFit (tm j) (ak j) clk) = true from h3]; rfl) (by decide)) fun h3 => nxt (by unfold asE; rw [h1, show (aChk m w need (ak j) != 0) = false from h2, show (!aFit (tm j) (ak j) clk) = false from h3]; rfl))))))
    · have hge : j = b := by have := of_decide_eq_false ht; omega
      subst hge
      rw [fstE_all hz] at h
      exact ⟨[], rfl, h⟩
  · exact h.elim
theorem lAs_ok : ∀ F, lAs (key (bodyOf Try.f36 0)) = some F → LOk K24.P (bodyOf Try.f36 0) F := fun F h => by
  have hk : lAs (key (bodyOf Try.f36 0)) = some (lspec 51 keepAs 6 gAsL) := by kernel_rfl
  rw [hk] at h
  cases h
  exact loop_as
theorem run_neB (m : Nat) (w : Nat → List Value) (need : Int) (a : Nat) (nd : Nat → List Value) (b : Nat) (ak : Nat → List Value) (c : Nat) (tm : Nat → List Value) (d : Nat) (nt : Nat → List Value) (clk : Int) (j : Nat) : ev K24 noL (bodyOf Try.f37 0) ⟨mkSlots 37 [1, 11, 12, 13] [.pointer (some ⟨5, 0, none⟩), .slice (some ⟨4, 0, some 0⟩) d d, .int .i64 d, .int .i64 j], [.recs wtK m w, .recs cpK a nd, .recs asK b ak, .recs tmK c tm, .recs msK d nt, .cells 30 (clV m need a b c d clk)]⟩ (pkG 37 keepNe 6) = tst (decide ((↑j : Int) < (↑d : Int))) (Out.ask ((0 : Int) ≤ (↑j : Int) ∧ (↑j : Int) < (↑d : Int)) (Out.ask (j < d) (tst (x_wchk (intV (hdV (nt j))) (intV (hdV (tlV (nt j)))) (intV (hdV (tlV (tlV (nt j))))) (intV (hdV (tlV (tlV (tlV (nt j)))))) (intV (hdV (tlV (tlV (tlV (tlV (nt j))))))) (strV (hdV (tlV (tlV (tlV (tlV (tlV (nt j)))))))) != (0 : Int)) (Out.done AE.ret { slots := [some (Value.int IntKind.i64 (x_wchk (intV (hdV (nt j))) (intV (hdV (tlV (nt j)))) (intV (hdV (tlV (tlV (nt j))))) (intV (hdV (tlV (tlV (tlV (nt j)))))) (intV (hdV (tlV (tlV (tlV (tlV (nt j))))))) (strV (hdV (tlV (tlV (tlV (tlV (tlV (nt j))))))))))], heap := [AObj.recs wtK m w, AObj.recs cpK a nd, AObj.recs asK b ak, AObj.recs tmK c tm, AObj.recs msK d nt, AObj.cells (30 : TypeId) [Value.slice (some { block := (0 : Nat), off := (0 : Nat), spot := some (0 : Nat) }) m m, Value.int IntKind.i64 need, Value.slice (some { block := (1 : Nat), off := (0 : Nat), spot := some (0 : Nat) }) a a, Value.slice (some { block := (2 : Nat), off := (0 : Nat), spot := some (0 : Nat) }) b b, Value.slice (some { block := (3 : Nat), off := (0 : Nat), spot := some (0 : Nat) }) c c, Value.slice (some { block := (4 : Nat), off := (0 : Nat), spot := some (0 : Nat) }) d d, Value.int IntKind.i64 clk]] }) (tst (decide (intV (hdV (tlV (tlV (nt (Int.toNat (↑j : Int) + (0 : Nat)))))) ≥ (↑a : Int))) (Out.done AE.ret { slots := [some (Value.int IntKind.i64 (3 : Int))], heap := [AObj.recs wtK m w, AObj.recs cpK a nd, AObj.recs asK b ak, AObj.recs tmK c tm, AObj.recs msK d nt, AObj.cells (30 : TypeId) [Value.slice (some { block := (0 : Nat), off := (0 : Nat), spot := some (0 : Nat) }) m m, Value.int IntKind.i64 need, Value.slice (some { block := (1 : Nat), off := (0 : Nat), spot := some (0 : Nat) }) a a, Value.slice (some { block := (2 : Nat), off := (0 : Nat), spot := some (0 : Nat) }) b b, Value.slice (some { block := (3 : Nat), off := (0 : Nat), spot := some (0 : Nat) }) c c, Value.slice (some { block := (4 : Nat), off := (0 : Nat), spot := some (0 : Nat) }) d d, Value.int IntKind.i64 clk]] }) (tst (decide (intV (hdV (tlV (nt (Int.toNat (↑j : Int) + (0 : Nat))))) ≥ (↑b : Int))) (Out.done AE.ret { slots := [some (Value.int IntKind.i64 (3 : Int))], heap := [AObj.recs wtK m w, AObj.recs cpK a nd, AObj.recs asK b ak, AObj.recs tmK c tm, AObj.recs msK d nt, AObj.cells (30 : TypeId) [Value.slice (some { block := (0 : Nat), off := (0 : Nat), spot := some (0 : Nat) }) m m, Value.int IntKind.i64 need, Value.slice (some { block := (1 : Nat), off := (0 : Nat), spot := some (0 : Nat) }) a a, Value.slice (some { block := (2 : Nat), off := (0 : Nat), spot := some (0 : Nat) }) b b, Value.slice (some { block := (3 : Nat), off := (0 : Nat), spot := some (0 : Nat) }) c c, Value.slice (some { block := (4 : Nat), off := (0 : Nat), spot := some (0 : Nat) }) d d, Value.int IntKind.i64 clk]] }) (Out.done AE.normal { slots := [some (Value.pointer (some { block := (5 : Nat), off := (0 : Nat) })), some (Value.slice (some { block := (4 : Nat), off := (0 : Nat), spot := some (0 : Nat) }) d d), some (Value.int IntKind.i64 (↑d : Int)), some (Value.int IntKind.i64 (IntKind.wrap IntKind.i64 ((↑j : Int) + (1 : Int))))], heap := [AObj.recs wtK m w, AObj.recs cpK a nd, AObj.recs asK b ak, AObj.recs tmK c tm, AObj.recs msK d nt, AObj.cells (30 : TypeId) [Value.slice (some { block := (0 : Nat), off := (0 : Nat), spot := some (0 : Nat) }) m m, Value.int IntKind.i64 need, Value.slice (some { block := (1 : Nat), off := (0 : Nat), spot := some (0 : Nat) }) a a, Value.slice (some { block := (2 : Nat), off := (0 : Nat), spot := some (0 : Nat) }) b b, Value.slice (some { block := (3 : Nat), off := (0 : Nat), spot := some (0 : Nat) }) c c, Value.slice (some { block := (4 : Nat), off := (0 : Nat), spot := some (0 : Nat) }) d d, Value.int IntKind.i64 clk]] })))))) (Out.done (AE.exit (0 : Nat)) { slots := [], heap := [AObj.recs wtK m w, AObj.recs cpK a nd, AObj.recs asK b ak, AObj.recs tmK c tm, AObj.recs msK d nt, AObj.cells (30 : TypeId) [Value.slice (some { block := (0 : Nat), off := (0 : Nat), spot := some (0 : Nat) }) m m, Value.int IntKind.i64 need, Value.slice (some { block := (1 : Nat), off := (0 : Nat), spot := some (0 : Nat) }) a a, Value.slice (some { block := (2 : Nat), off := (0 : Nat), spot := some (0 : Nat) }) b b, Value.slice (some { block := (3 : Nat), off := (0 : Nat), spot := some (0 : Nat) }) c c, Value.slice (some { block := (4 : Nat), off := (0 : Nat), spot := some (0 : Nat) }) d d, Value.int IntKind.i64 clk]] }) := by kernel_rfl
def gNeL (vs : List Value) (H : List AObj) (k : AE → List Value → List AObj → Out) : Out :=
  match H with
  | [.recs _ m w, .recs _ a nd, .recs _ b ak, .recs _ c tm, .recs _ d nt, .cells _ [_, .int .i64 need, _, _, _, _, .int .i64 clk]] => .ask (vs = [.pointer (some ⟨5, 0, none⟩), .slice (some ⟨4, 0, some 0⟩) d d, .int .i64 d, .int .i64 0] ∧ H = [.recs wtK m w, .recs cpK a nd, .recs asK b ak, .recs tmK c tm, .recs msK d nt, .cells 30 (clV m need a b c d clk)] ∧ d ≤ 140737488355328) (tst (fstE (neE a b nt) d != 0) (k .ret [.int .i64 (fstE (neE a b nt) d)] H) (k (.exit 0) [] H))
  | _ => .bad
def lNe : Nat → Option LCon := oneL 4 (lspec 37 keepNe 6 gNeL)
theorem loop_ne : LOk K24.P (bodyOf Try.f37 0) (lspec 37 keepNe 6 gNeL) := lspec_ok K24_ok (L := noL) (fun c' _ F h => by cases h) fun Φ vs H k hm0 h => by
  unfold gNeL at h
  split at h
  · rename_i s0 m w s1 a nd s2 b ak s3 c tm s4 d nt t v0 need v1 v2 v3 v4 clk
    obtain ⟨⟨rfl, e, hb⟩, h⟩ := h
    cases e
    skip
    refine ⟨{j : Nat // j ≤ d ∧ ∀ i, i < j → (neE a b nt) i = 0}, fun i => [.pointer (some ⟨5, 0, none⟩), .slice (some ⟨4, 0, some 0⟩) d d, .int .i64 d, .int .i64 i.1], fun _ => [.recs wtK m w, .recs cpK a nd, .recs asK b ak, .recs tmK c tm, .recs msK d nt, .cells 30 (clV m need a b c d clk)], fun i => d - i.1, ⟨0, by omega, fun i hi => by omega⟩, rfl, rfl, ?_⟩
    rintro ⟨j, hj, hz⟩
    show (ev K24 noL _ ⟨mkSlots 37 [1, 11, 12, 13] [.pointer (some ⟨5, 0, none⟩), .slice (some ⟨4, 0, some 0⟩) d d, .int .i64 d, .int .i64 j], [.recs wtK m w, .recs cpK a nd, .recs asK b ak, .recs tmK c tm, .recs msK d nt, .cells 30 (clV m need a b c d clk)]⟩ (pkG 37 keepNe 6)).sat _
    rw [run_neB]
    refine sat_tst (fun ht => ?_) (fun ht => ?_)
    · have hlt : j < d := by have := of_decide_eq_true ht; omega
      have i1 : (0 : Int) ≤ (j : Int) ∧ (j : Int) < (d : Int) := ⟨by omega, by omega⟩
      have ret : ∀ x, x = (neE a b nt) j → x ≠ 0 → ∃ vs, [some (Value.int .i64 x)] = someL vs ∧ (k .ret vs [.recs wtK m w, .recs cpK a nd, .recs asK b ak, .recs tmK c tm, .recs msK d nt, .cells 30 (clV m need a b c d clk)]).sat Φ := fun x hx hx0 => by
        subst hx
        have ef := fstE_at hz hx0 hlt
        rw [ef] at h
        rcases tst_sat h with ⟨_, h⟩ | ⟨h0, _⟩
        · exact ⟨_, rfl, h⟩
        · exact absurd (eq_of_bne h0) hx0
      have nxt : (neE a b nt) j = 0 → ∃ i' : {j : Nat // j ≤ d ∧ ∀ i, i < j → (neE a b nt) i = 0}, [some (.pointer (some ⟨5, 0, none⟩)), some (.slice (some ⟨4, 0, some 0⟩) d d), some (.int .i64 d), some (.int .i64 (IntKind.wrap IntKind.i64 ((j : Int) + 1)))] = someL [.pointer (some ⟨5, 0, none⟩), .slice (some ⟨4, 0, some 0⟩) d d, .int .i64 d, .int .i64 i'.1] ∧ ([.recs wtK m w, .recs cpK a nd, .recs asK b ak, .recs tmK c tm, .recs msK d nt, .cells 30 (clV m need a b c d clk)] : List AObj) = [.recs wtK m w, .recs cpK a nd, .recs asK b ak, .recs tmK c tm, .recs msK d nt, .cells 30 (clV m need a b c d clk)] ∧ d - i'.1 < d - j := fun e0 =>
        ⟨⟨j + 1, by omega, fun i hi => by
          by_cases ei : i = j
          · subst ei; exact e0
          · exact hz i (by omega)⟩, by rw [wrap_at hlt hb]; rfl, rfl, by show d - (j + 1) < d - j; omega⟩
      refine sat_ask i1 (sat_ask hlt (sat_tst (fun h1 => ret _ (by unfold neE; rw [show (mChk (nt j) != 0) = true from h1]; rfl) (ne_of_bne h1)) fun h1 => sat_tst (fun h2 => ret 3 (by unfold neE; rw [show (mChk (nt j) != 0) = false from h1, show decide ((intV (hdV (tlV (tlV (nt j))))) ≥ (a : Int)) = true from h2]; rfl) (by decide)) fun h2 => sat_tst (fun h3 => ret 3 (by unfold neE; rw [show (mChk (nt j) != 0) = false from h1, show decide ((intV (hdV (tlV (tlV (nt j))))) ≥ (a : Int)) = false from h2, show decide ((intV (hdV (tlV (nt j)))) ≥ (b : Int)) = true from h3]; rfl) (by decide)) fun h3 => nxt (by unfold neE; rw [show (mChk (nt j) != 0) = false from h1, show decide ((intV (hdV (tlV (tlV (nt j))))) ≥ (a : Int)) = false from h2, show decide ((intV (hdV (tlV (nt j)))) ≥ (b : Int)) = false from h3]; rfl)))
    · have hge : j = d := by have := of_decide_eq_false ht; omega
      subst hge
      rw [fstE_all hz] at h
      exact ⟨[], rfl, h⟩
  · exact h.elim
theorem lNe_ok : ∀ F, lNe (key (bodyOf Try.f37 0)) = some F → LOk K24.P (bodyOf Try.f37 0) F := fun F h => by
  have hk : lNe (key (bodyOf Try.f37 0)) = some (lspec 37 keepNe 6 gNeL) := by kernel_rfl
  rw [hk] at h
  cases h
  exact loop_ne
theorem run_cno (m : Nat) (w : Nat → List Value) (need : Int) (a : Nat) (nd : Nat → List Value) (b : Nat) (ak : Nat → List Value) (c : Nat) (tm : Nat → List Value) (d : Nat) (nt : Nat → List Value) (clk : Int) : evV K24 lNo Try.f35 [.agg ⟨[.slice (some ⟨0, 0, some 0⟩) m m, .int .i64 need, .slice (some ⟨1, 0, some 0⟩) a a, .slice (some ⟨2, 0, some 0⟩) b b, .slice (some ⟨3, 0, some 0⟩) c c, .slice (some ⟨4, 0, some 0⟩) d d, .int .i64 clk]⟩] [.recs wtK m w, .recs cpK a nd, .recs asK b ak, .recs tmK c tm, .recs msK d nt] = tst ((↑a : Int) != (↑m : Int)) (Out.done AE.ret { slots := [some (Value.int IntKind.i64 (1 : Int))], heap := [] }) (Out.ask ([Value.slice (some { block := (1 : Nat), off := (0 : Nat), spot := some (0 : Nat) }) a a, Value.int IntKind.i64 (↑a : Int), Value.int IntKind.i64 (0 : Int)] = [Value.slice (some { block := (1 : Nat), off := (0 : Nat), spot := some (0 : Nat) }) a a, Value.int IntKind.i64 (↑a : Int), Value.int IntKind.i64 (0 : Int)] ∧ [AObj.recs wtK m w, AObj.recs cpK a nd, AObj.recs asK b ak, AObj.recs tmK c tm, AObj.recs msK d nt, AObj.cells (30 : Nat) [Value.slice (some { block := (0 : Nat), off := (0 : Nat), spot := some (0 : Nat) }) m m, Value.int IntKind.i64 need, Value.slice (some { block := (1 : Nat), off := (0 : Nat), spot := some (0 : Nat) }) a a, Value.slice (some { block := (2 : Nat), off := (0 : Nat), spot := some (0 : Nat) }) b b, Value.slice (some { block := (3 : Nat), off := (0 : Nat), spot := some (0 : Nat) }) c c, Value.slice (some { block := (4 : Nat), off := (0 : Nat), spot := some (0 : Nat) }) d d, Value.int IntKind.i64 clk]] = [AObj.recs wtK m w, AObj.recs cpK a nd, AObj.recs asK b ak, AObj.recs tmK c tm, AObj.recs msK d nt, AObj.cells (30 : TypeId) [Value.slice (some { block := (0 : Nat), off := (0 : Nat), spot := some (0 : Nat) }) m m, Value.int IntKind.i64 need, Value.slice (some { block := (1 : Nat), off := (0 : Nat), spot := some (0 : Nat) }) a a, Value.slice (some { block := (2 : Nat), off := (0 : Nat), spot := some (0 : Nat) }) b b, Value.slice (some { block := (3 : Nat), off := (0 : Nat), spot := some (0 : Nat) }) c c, Value.slice (some { block := (4 : Nat), off := (0 : Nat), spot := some (0 : Nat) }) d d, Value.int IntKind.i64 clk]] ∧ a ≤ (140737488355328 : Nat)) (tst (fstE (noE nd) a != (0 : Int)) (Out.done AE.ret { slots := [some (Value.int IntKind.i64 (fstE (noE nd) a))], heap := [] }) (Out.done AE.ret { slots := [some (Value.int IntKind.i64 (0 : Int))], heap := [] }))) := by kernel_rfl
def x_cno (m : Nat) (a : Nat) (nd : Nat → List Value) : Int := (bif (↑a : Int) != (↑m : Int) then (1 : Int) else (bif fstE (noE nd) a != (0 : Int) then (fstE (noE nd) a) else (0 : Int)))
def g_cno : List CA → Option Value
  | [.rows _ m _, .val (.int .i64 _), .rows _ a nd, .rows _ _ _, .rows _ _ _, .rows _ _ _, .val (.int .i64 _)] => some (.int .i64 (x_cno m a nd))
  | _ => none
theorem q_cno : QOk K24.P 35 (listC [.agg [.rows wtK, .val, .rows cpK, .rows asK, .rows tmK, .rows msK, .val]] g_cno) := list_q K24_ok Try.func35 rfl rfl (one_loop (by kernel_rfl) lNo_ok) fun cas r hb hk h => by
  unfold g_cno at h
  split at h
  · rename_i sh0 m w need sh0 a nd sh0 b ak sh0 c tm sh0 d nt clk
    have e0 := kind_rows (i := 0) hk rfl rfl
    have hbm := bnd_rows (i := 0) hb rfl
    subst e0
    have e0 := kind_rows (i := 2) hk rfl rfl
    have hba := bnd_rows (i := 2) hb rfl
    subst e0
    have e0 := kind_rows (i := 3) hk rfl rfl
    have hbb := bnd_rows (i := 3) hb rfl
    subst e0
    have e0 := kind_rows (i := 4) hk rfl rfl
    have hbc := bnd_rows (i := 4) hb rfl
    subst e0
    have e0 := kind_rows (i := 5) hk rfl rfl
    have hbd := bnd_rows (i := 5) hb rfl
    subst e0
    cases h
    refine ⟨rfl, ?_⟩
    show (evV K24 lNo _ [.agg ⟨[.slice (some ⟨0, 0, some 0⟩) m m, .int .i64 need, .slice (some ⟨1, 0, some 0⟩) a a, .slice (some ⟨2, 0, some 0⟩) b b, .slice (some ⟨3, 0, some 0⟩) c c, .slice (some ⟨4, 0, some 0⟩) d d, .int .i64 clk]⟩] [.recs wtK m w, .recs cpK a nd, .recs asK b ak, .recs tmK c tm, .recs msK d nt]).sat _
    rw [run_cno]
    exact sat_tst (fun h0 => leaf_v (by simp only [x_cno, h0, cond_true])) (fun h0 => sat_ask (by first | omega | exact ⟨Nat.le_refl _, by assumption⟩ | exact ⟨rfl, rfl⟩ | exact ⟨rfl, rfl, hba⟩ | simp_all) (sat_tst (fun h1 => leaf_v (by simp only [x_cno, h0, h1, cond_true, cond_false])) (fun h1 => leaf_v (by simp only [x_cno, h0, h1, cond_false]))))
  · cases h
theorem run_cas (m : Nat) (w : Nat → List Value) (need : Int) (a : Nat) (nd : Nat → List Value) (b : Nat) (ak : Nat → List Value) (c : Nat) (tm : Nat → List Value) (d : Nat) (nt : Nat → List Value) (clk : Int) : evV K24 lAs Try.f36 [.agg ⟨[.slice (some ⟨0, 0, some 0⟩) m m, .int .i64 need, .slice (some ⟨1, 0, some 0⟩) a a, .slice (some ⟨2, 0, some 0⟩) b b, .slice (some ⟨3, 0, some 0⟩) c c, .slice (some ⟨4, 0, some 0⟩) d d, .int .i64 clk]⟩] [.recs wtK m w, .recs cpK a nd, .recs asK b ak, .recs tmK c tm, .recs msK d nt] = tst (decide ((↑b : Int) > (31 : Int))) (Out.done AE.ret { slots := [some (Value.int IntKind.i64 (2 : Int))], heap := [] }) (tst ((↑c : Int) != (↑b : Int)) (Out.done AE.ret { slots := [some (Value.int IntKind.i64 (1 : Int))], heap := [] }) (Out.ask ([Value.pointer (some { block := (5 : Nat), off := (0 : Nat) }), Value.slice (some { block := (2 : Nat), off := (0 : Nat), spot := some (0 : Nat) }) b b, Value.int IntKind.i64 (↑b : Int), Value.int IntKind.i64 (0 : Int)] = [Value.pointer (some { block := (5 : Nat), off := (0 : Nat) }), Value.slice (some { block := (2 : Nat), off := (0 : Nat), spot := some (0 : Nat) }) b b, Value.int IntKind.i64 (↑b : Int), Value.int IntKind.i64 (0 : Int)] ∧ [AObj.recs wtK m w, AObj.recs cpK a nd, AObj.recs asK b ak, AObj.recs tmK c tm, AObj.recs msK d nt, AObj.cells (30 : Nat) [Value.slice (some { block := (0 : Nat), off := (0 : Nat), spot := some (0 : Nat) }) m m, Value.int IntKind.i64 need, Value.slice (some { block := (1 : Nat), off := (0 : Nat), spot := some (0 : Nat) }) a a, Value.slice (some { block := (2 : Nat), off := (0 : Nat), spot := some (0 : Nat) }) b b, Value.slice (some { block := (3 : Nat), off := (0 : Nat), spot := some (0 : Nat) }) c c, Value.slice (some { block := (4 : Nat), off := (0 : Nat), spot := some (0 : Nat) }) d d, Value.int IntKind.i64 clk]] = [AObj.recs wtK m w, AObj.recs cpK a nd, AObj.recs asK b ak, AObj.recs tmK c tm, AObj.recs msK d nt, AObj.cells (30 : TypeId) [Value.slice (some { block := (0 : Nat), off := (0 : Nat), spot := some (0 : Nat) }) m m, Value.int IntKind.i64 need, Value.slice (some { block := (1 : Nat), off := (0 : Nat), spot := some (0 : Nat) }) a a, Value.slice (some { block := (2 : Nat), off := (0 : Nat), spot := some (0 : Nat) }) b b, Value.slice (some { block := (3 : Nat), off := (0 : Nat), spot := some (0 : Nat) }) c c, Value.slice (some { block := (4 : Nat), off := (0 : Nat), spot := some (0 : Nat) }) d d, Value.int IntKind.i64 clk]] ∧ b ≤ (140737488355328 : Nat) ∧ c = b ∧ m ≤ (140737488355328 : Nat)) (tst (fstE (asE m w need ak tm clk) b != (0 : Int)) (Out.done AE.ret { slots := [some (Value.int IntKind.i64 (fstE (asE m w need ak tm clk) b))], heap := [] }) (Out.done AE.ret { slots := [some (Value.int IntKind.i64 (0 : Int))], heap := [] })))) := by kernel_rfl
def x_cas (m : Nat) (w : Nat → List Value) (need : Int) (b : Nat) (ak : Nat → List Value) (c : Nat) (tm : Nat → List Value) (clk : Int) : Int := (bif decide ((↑b : Int) > (31 : Int)) then (2 : Int) else (bif (↑c : Int) != (↑b : Int) then (1 : Int) else (bif fstE (asE m w need ak tm clk) b != (0 : Int) then (fstE (asE m w need ak tm clk) b) else (0 : Int))))
def g_cas : List CA → Option Value
  | [.rows _ m w, .val (.int .i64 need), .rows _ _ _, .rows _ b ak, .rows _ c tm, .rows _ _ _, .val (.int .i64 clk)] => some (.int .i64 (x_cas m w need b ak c tm clk))
  | _ => none
theorem q_cas : QOk K24.P 36 (listC [.agg [.rows wtK, .val, .rows cpK, .rows asK, .rows tmK, .rows msK, .val]] g_cas) := list_q K24_ok Try.func36 rfl rfl (one_loop (by kernel_rfl) lAs_ok) fun cas r hb hk h => by
  unfold g_cas at h
  split at h
  · rename_i sh0 m w need sh0 a nd sh0 b ak sh0 c tm sh0 d nt clk
    have e0 := kind_rows (i := 0) hk rfl rfl
    have hbm := bnd_rows (i := 0) hb rfl
    subst e0
    have e0 := kind_rows (i := 2) hk rfl rfl
    have hba := bnd_rows (i := 2) hb rfl
    subst e0
    have e0 := kind_rows (i := 3) hk rfl rfl
    have hbb := bnd_rows (i := 3) hb rfl
    subst e0
    have e0 := kind_rows (i := 4) hk rfl rfl
    have hbc := bnd_rows (i := 4) hb rfl
    subst e0
    have e0 := kind_rows (i := 5) hk rfl rfl
    have hbd := bnd_rows (i := 5) hb rfl
    subst e0
    cases h
    refine ⟨rfl, ?_⟩
    show (evV K24 lAs _ [.agg ⟨[.slice (some ⟨0, 0, some 0⟩) m m, .int .i64 need, .slice (some ⟨1, 0, some 0⟩) a a, .slice (some ⟨2, 0, some 0⟩) b b, .slice (some ⟨3, 0, some 0⟩) c c, .slice (some ⟨4, 0, some 0⟩) d d, .int .i64 clk]⟩] [.recs wtK m w, .recs cpK a nd, .recs asK b ak, .recs tmK c tm, .recs msK d nt]).sat _
    rw [run_cas]
    exact sat_tst (fun h0 => leaf_v (by simp only [x_cas, h0, cond_true])) (fun h0 => sat_tst (fun h1 => leaf_v (by simp only [x_cas, h0, h1, cond_true, cond_false])) (fun h1 => sat_ask (by first | omega | exact ⟨Nat.le_refl _, by assumption⟩ | exact ⟨rfl, rfl⟩ | exact ⟨rfl, rfl, hbb, by have := bne_f2 h1; omega, hbm⟩ | simp_all) (sat_tst (fun h2 => leaf_v (by simp only [x_cas, h0, h1, h2, cond_true, cond_false])) (fun h2 => leaf_v (by simp only [x_cas, h0, h1, h2, cond_false])))))
  · cases h
theorem run_cne (m : Nat) (w : Nat → List Value) (need : Int) (a : Nat) (nd : Nat → List Value) (b : Nat) (ak : Nat → List Value) (c : Nat) (tm : Nat → List Value) (d : Nat) (nt : Nat → List Value) (clk : Int) : evV K24 lNe Try.f37 [.agg ⟨[.slice (some ⟨0, 0, some 0⟩) m m, .int .i64 need, .slice (some ⟨1, 0, some 0⟩) a a, .slice (some ⟨2, 0, some 0⟩) b b, .slice (some ⟨3, 0, some 0⟩) c c, .slice (some ⟨4, 0, some 0⟩) d d, .int .i64 clk]⟩] [.recs wtK m w, .recs cpK a nd, .recs asK b ak, .recs tmK c tm, .recs msK d nt] = tst (decide ((↑d : Int) > (200 : Int))) (Out.done AE.ret { slots := [some (Value.int IntKind.i64 (2 : Int))], heap := [] }) (Out.ask ([Value.pointer (some { block := (5 : Nat), off := (0 : Nat) }), Value.slice (some { block := (4 : Nat), off := (0 : Nat), spot := some (0 : Nat) }) d d, Value.int IntKind.i64 (↑d : Int), Value.int IntKind.i64 (0 : Int)] = [Value.pointer (some { block := (5 : Nat), off := (0 : Nat) }), Value.slice (some { block := (4 : Nat), off := (0 : Nat), spot := some (0 : Nat) }) d d, Value.int IntKind.i64 (↑d : Int), Value.int IntKind.i64 (0 : Int)] ∧ [AObj.recs wtK m w, AObj.recs cpK a nd, AObj.recs asK b ak, AObj.recs tmK c tm, AObj.recs msK d nt, AObj.cells (30 : Nat) [Value.slice (some { block := (0 : Nat), off := (0 : Nat), spot := some (0 : Nat) }) m m, Value.int IntKind.i64 need, Value.slice (some { block := (1 : Nat), off := (0 : Nat), spot := some (0 : Nat) }) a a, Value.slice (some { block := (2 : Nat), off := (0 : Nat), spot := some (0 : Nat) }) b b, Value.slice (some { block := (3 : Nat), off := (0 : Nat), spot := some (0 : Nat) }) c c, Value.slice (some { block := (4 : Nat), off := (0 : Nat), spot := some (0 : Nat) }) d d, Value.int IntKind.i64 clk]] = [AObj.recs wtK m w, AObj.recs cpK a nd, AObj.recs asK b ak, AObj.recs tmK c tm, AObj.recs msK d nt, AObj.cells (30 : TypeId) [Value.slice (some { block := (0 : Nat), off := (0 : Nat), spot := some (0 : Nat) }) m m, Value.int IntKind.i64 need, Value.slice (some { block := (1 : Nat), off := (0 : Nat), spot := some (0 : Nat) }) a a, Value.slice (some { block := (2 : Nat), off := (0 : Nat), spot := some (0 : Nat) }) b b, Value.slice (some { block := (3 : Nat), off := (0 : Nat), spot := some (0 : Nat) }) c c, Value.slice (some { block := (4 : Nat), off := (0 : Nat), spot := some (0 : Nat) }) d d, Value.int IntKind.i64 clk]] ∧ d ≤ (140737488355328 : Nat)) (tst (fstE (neE a b nt) d != (0 : Int)) (Out.done AE.ret { slots := [some (Value.int IntKind.i64 (fstE (neE a b nt) d))], heap := [] }) (Out.done AE.ret { slots := [some (Value.int IntKind.i64 (0 : Int))], heap := [] }))) := by kernel_rfl
def x_cne (a : Nat) (b : Nat) (d : Nat) (nt : Nat → List Value) : Int := (bif decide ((↑d : Int) > (200 : Int)) then (2 : Int) else (bif fstE (neE a b nt) d != (0 : Int) then (fstE (neE a b nt) d) else (0 : Int)))
def g_cne : List CA → Option Value
  | [.rows _ _ _, .val (.int .i64 _), .rows _ a _, .rows _ b _, .rows _ _ _, .rows _ d nt, .val (.int .i64 _)] => some (.int .i64 (x_cne a b d nt))
  | _ => none
theorem q_cne : QOk K24.P 37 (listC [.agg [.rows wtK, .val, .rows cpK, .rows asK, .rows tmK, .rows msK, .val]] g_cne) := list_q K24_ok Try.func37 rfl rfl (one_loop (by kernel_rfl) lNe_ok) fun cas r hb hk h => by
  unfold g_cne at h
  split at h
  · rename_i sh0 m w need sh0 a nd sh0 b ak sh0 c tm sh0 d nt clk
    have e0 := kind_rows (i := 0) hk rfl rfl
    have hbm := bnd_rows (i := 0) hb rfl
    subst e0
    have e0 := kind_rows (i := 2) hk rfl rfl
    have hba := bnd_rows (i := 2) hb rfl
    subst e0
    have e0 := kind_rows (i := 3) hk rfl rfl
    have hbb := bnd_rows (i := 3) hb rfl
    subst e0
    have e0 := kind_rows (i := 4) hk rfl rfl
    have hbc := bnd_rows (i := 4) hb rfl
    subst e0
    have e0 := kind_rows (i := 5) hk rfl rfl
    have hbd := bnd_rows (i := 5) hb rfl
    subst e0
    cases h
    refine ⟨rfl, ?_⟩
    show (evV K24 lNe _ [.agg ⟨[.slice (some ⟨0, 0, some 0⟩) m m, .int .i64 need, .slice (some ⟨1, 0, some 0⟩) a a, .slice (some ⟨2, 0, some 0⟩) b b, .slice (some ⟨3, 0, some 0⟩) c c, .slice (some ⟨4, 0, some 0⟩) d d, .int .i64 clk]⟩] [.recs wtK m w, .recs cpK a nd, .recs asK b ak, .recs tmK c tm, .recs msK d nt]).sat _
    rw [run_cne]
    exact sat_tst (fun h0 => leaf_v (by simp only [x_cne, h0, cond_true])) (fun h0 => sat_ask (by first | omega | exact ⟨Nat.le_refl _, by assumption⟩ | exact ⟨rfl, rfl⟩ | exact ⟨rfl, rfl, hbd⟩ | simp_all) (sat_tst (fun h1 => leaf_v (by simp only [x_cne, h0, h1, cond_true, cond_false])) (fun h1 => leaf_v (by simp only [x_cne, h0, h1, cond_false]))))
  · cases h
noncomputable def K25 : Kn := ((K24.addQ 35 (listC [.agg [.rows wtK, .val, .rows cpK, .rows asK, .rows tmK, .rows msK, .val]] g_cno)).addQ 36 (listC [.agg [.rows wtK, .val, .rows cpK, .rows asK, .rows tmK, .rows msK, .val]] g_cas)).addQ 37 (listC [.agg [.rows wtK, .val, .rows cpK, .rows asK, .rows tmK, .rows msK, .val]] g_cne)
theorem K25_ok : K25.Ok := ((K24_ok.addQ q_cno).addQ q_cas).addQ q_cne
def aCln : List CA → Prop
  | [.rows _ n _] => n ≤ 1000
  | _ => False
theorem run_clIn (n : Nat) (g : Nat → List Value) : evR K25 noL Try.f45 [.slice (some ⟨0, 0, some 0⟩) n n] [.recs wtK n g] [.one .val] [.rows 3 wtK n g] = Out.all fun c => tst (Nat.beq n (0 : Nat) && Nat.beq c (0 : Nat)) (Out.ask (n = (0 : Nat)) (Out.done AE.ret { slots := [], heap := [] })) (Out.ask ((0 : Nat) ≤ (0 : Nat)) (Out.ask (n ≤ n ∧ n ≤ (140737488355328 : Nat)) (Out.ask (((0 : Nat) + n) * (8 : Nat) ≤ (140737488355328 : Nat)) (Out.ask ((0 : Nat) + n = n ∧ (0 : Nat) + n ≤ (0 : Nat) + n ∧ ∀ (j : Nat), j < n → norm wtK (g j) = norm wtK (g j)) (Out.done AE.ret { slots := [], heap := [] }))))) := by kernel_rfl
def gClIn : List CA → Option (List RC)
  | [.rows _ n g] => some [.rows 3 wtK n g]
  | _ => none
theorem f_clIn : FOk K25.P 45 (listF [.one (.rows wtK)] [.one .val] aCln gClIn) := list_f K25_ok Try.func45 rfl rfl (no_loops rfl) fun cas rs hb hk ha h => by
  unfold gClIn at h
  split at h
  · rename_i sh0 n g
    have := kind_rows (i := 0) hk rfl rfl
    subst this
    have ha : n ≤ 1000 := ha
    cases h
    show (evR K25 noL _ [.slice (some ⟨0, 0, some 0⟩) n n] [.recs wtK n g] [.one .val] _).sat _
    rw [run_clIn]
    exact fun c => sat_tst (fun h0 => sat_ask (by rw [Bool.and_eq_true, Nat.beq_eq] at h0; exact h0.1) sat_end) fun _ => sat_ask (Nat.le_refl _) (sat_ask ⟨Nat.le_refl _, by omega⟩ (sat_ask (by omega) (sat_ask ⟨by omega, Nat.le_refl _, fun j _ => rfl⟩ sat_end)))
  · cases h
theorem run_clCo (n : Nat) (g : Nat → List Value) : evR K25 noL Try.f46 [.slice (some ⟨0, 0, some 0⟩) n n] [.recs cpK n g] [.one .val] [.rows 50 cpK n g] = Out.all fun c => tst (Nat.beq n (0 : Nat) && Nat.beq c (0 : Nat)) (Out.ask (n = (0 : Nat)) (Out.done AE.ret { slots := [], heap := [] })) (Out.ask ((0 : Nat) ≤ (0 : Nat)) (Out.ask (n ≤ n ∧ n ≤ (140737488355328 : Nat)) (Out.ask (((0 : Nat) + n) * (32 : Nat) ≤ (140737488355328 : Nat)) (Out.ask ((0 : Nat) + n = n ∧ (0 : Nat) + n ≤ (0 : Nat) + n ∧ ∀ (j : Nat), j < n → norm cpK (g j) = norm cpK (g j)) (Out.done AE.ret { slots := [], heap := [] }))))) := by kernel_rfl
def gClCo : List CA → Option (List RC)
  | [.rows _ n g] => some [.rows 50 cpK n g]
  | _ => none
theorem f_clCo : FOk K25.P 46 (listF [.one (.rows cpK)] [.one .val] aCln gClCo) := list_f K25_ok Try.func46 rfl rfl (no_loops rfl) fun cas rs hb hk ha h => by
  unfold gClCo at h
  split at h
  · rename_i sh0 n g
    have := kind_rows (i := 0) hk rfl rfl
    subst this
    have ha : n ≤ 1000 := ha
    cases h
    show (evR K25 noL _ [.slice (some ⟨0, 0, some 0⟩) n n] [.recs cpK n g] [.one .val] _).sat _
    rw [run_clCo]
    exact fun c => sat_tst (fun h0 => sat_ask (by rw [Bool.and_eq_true, Nat.beq_eq] at h0; exact h0.1) sat_end) fun _ => sat_ask (Nat.le_refl _) (sat_ask ⟨Nat.le_refl _, by omega⟩ (sat_ask (by omega) (sat_ask ⟨by omega, Nat.le_refl _, fun j _ => rfl⟩ sat_end)))
  · cases h
theorem run_clAs (n : Nat) (g : Nat → List Value) : evR K25 noL Try.f47 [.slice (some ⟨0, 0, some 0⟩) n n] [.recs asK n g] [.one .val] [.rows 53 asK n g] = Out.all fun c => tst (Nat.beq n (0 : Nat) && Nat.beq c (0 : Nat)) (Out.ask (n = (0 : Nat)) (Out.done AE.ret { slots := [], heap := [] })) (Out.ask ((0 : Nat) ≤ (0 : Nat)) (Out.ask (n ≤ n ∧ n ≤ (140737488355328 : Nat)) (Out.ask (((0 : Nat) + n) * (80 : Nat) ≤ (140737488355328 : Nat)) (Out.ask ((0 : Nat) + n = n ∧ (0 : Nat) + n ≤ (0 : Nat) + n ∧ ∀ (j : Nat), j < n → norm asK (g j) = norm asK (g j)) (Out.done AE.ret { slots := [], heap := [] }))))) := by kernel_rfl
def gClAs : List CA → Option (List RC)
  | [.rows _ n g] => some [.rows 53 asK n g]
  | _ => none
theorem f_clAs : FOk K25.P 47 (listF [.one (.rows asK)] [.one .val] aCln gClAs) := list_f K25_ok Try.func47 rfl rfl (no_loops rfl) fun cas rs hb hk ha h => by
  unfold gClAs at h
  split at h
  · rename_i sh0 n g
    have := kind_rows (i := 0) hk rfl rfl
    subst this
    have ha : n ≤ 1000 := ha
    cases h
    show (evR K25 noL _ [.slice (some ⟨0, 0, some 0⟩) n n] [.recs asK n g] [.one .val] _).sat _
    rw [run_clAs]
    exact fun c => sat_tst (fun h0 => sat_ask (by rw [Bool.and_eq_true, Nat.beq_eq] at h0; exact h0.1) sat_end) fun _ => sat_ask (Nat.le_refl _) (sat_ask ⟨Nat.le_refl _, by omega⟩ (sat_ask (by omega) (sat_ask ⟨by omega, Nat.le_refl _, fun j _ => rfl⟩ sat_end)))
  · cases h
theorem run_clTe (n : Nat) (g : Nat → List Value) : evR K25 noL Try.f48 [.slice (some ⟨0, 0, some 0⟩) n n] [.recs tmK n g] [.one .val] [.rows 55 tmK n g] = Out.all fun c => tst (Nat.beq n (0 : Nat) && Nat.beq c (0 : Nat)) (Out.ask (n = (0 : Nat)) (Out.done AE.ret { slots := [], heap := [] })) (Out.ask ((0 : Nat) ≤ (0 : Nat)) (Out.ask (n ≤ n ∧ n ≤ (140737488355328 : Nat)) (Out.ask (((0 : Nat) + n) * (16 : Nat) ≤ (140737488355328 : Nat)) (Out.ask ((0 : Nat) + n = n ∧ (0 : Nat) + n ≤ (0 : Nat) + n ∧ ∀ (j : Nat), j < n → norm tmK (g j) = norm tmK (g j)) (Out.done AE.ret { slots := [], heap := [] }))))) := by kernel_rfl
def gClTe : List CA → Option (List RC)
  | [.rows _ n g] => some [.rows 55 tmK n g]
  | _ => none
theorem f_clTe : FOk K25.P 48 (listF [.one (.rows tmK)] [.one .val] aCln gClTe) := list_f K25_ok Try.func48 rfl rfl (no_loops rfl) fun cas rs hb hk ha h => by
  unfold gClTe at h
  split at h
  · rename_i sh0 n g
    have := kind_rows (i := 0) hk rfl rfl
    subst this
    have ha : n ≤ 1000 := ha
    cases h
    show (evR K25 noL _ [.slice (some ⟨0, 0, some 0⟩) n n] [.recs tmK n g] [.one .val] _).sat _
    rw [run_clTe]
    exact fun c => sat_tst (fun h0 => sat_ask (by rw [Bool.and_eq_true, Nat.beq_eq] at h0; exact h0.1) sat_end) fun _ => sat_ask (Nat.le_refl _) (sat_ask ⟨Nat.le_refl _, by omega⟩ (sat_ask (by omega) (sat_ask ⟨by omega, Nat.le_refl _, fun j _ => rfl⟩ sat_end)))
  · cases h
theorem run_clMs (n : Nat) (g : Nat → List Value) : evR K25 noL Try.f49 [.slice (some ⟨0, 0, some 0⟩) n n] [.recs msK n g] [.one .val] [.rows 68 msK n g] = Out.all fun c => tst (Nat.beq n (0 : Nat) && Nat.beq c (0 : Nat)) (Out.ask (n = (0 : Nat)) (Out.done AE.ret { slots := [], heap := [] })) (Out.ask ((0 : Nat) ≤ (0 : Nat)) (Out.ask (n ≤ n ∧ n ≤ (140737488355328 : Nat)) (Out.ask (((0 : Nat) + n) * (56 : Nat) ≤ (140737488355328 : Nat)) (Out.ask ((0 : Nat) + n = n ∧ (0 : Nat) + n ≤ (0 : Nat) + n ∧ ∀ (j : Nat), j < n → norm msK (g j) = norm msK (g j)) (Out.done AE.ret { slots := [], heap := [] }))))) := by kernel_rfl
def gClMs : List CA → Option (List RC)
  | [.rows _ n g] => some [.rows 68 msK n g]
  | _ => none
theorem f_clMs : FOk K25.P 49 (listF [.one (.rows msK)] [.one .val] aCln gClMs) := list_f K25_ok Try.func49 rfl rfl (no_loops rfl) fun cas rs hb hk ha h => by
  unfold gClMs at h
  split at h
  · rename_i sh0 n g
    have := kind_rows (i := 0) hk rfl rfl
    subst this
    have ha : n ≤ 1000 := ha
    cases h
    show (evR K25 noL _ [.slice (some ⟨0, 0, some 0⟩) n n] [.recs msK n g] [.one .val] _).sat _
    rw [run_clMs]
    exact fun c => sat_tst (fun h0 => sat_ask (by rw [Bool.and_eq_true, Nat.beq_eq] at h0; exact h0.1) sat_end) fun _ => sat_ask (Nat.le_refl _) (sat_ask ⟨Nat.le_refl _, by omega⟩ (sat_ask (by omega) (sat_ask ⟨by omega, Nat.le_refl _, fun j _ => rfl⟩ sat_end)))
  · cases h
noncomputable def K26 : Kn := ((((K25.addF 45 (listF [.one (.rows wtK)] [.one .val] aCln gClIn)).addF 46 (listF [.one (.rows cpK)] [.one .val] aCln gClCo)).addF 47 (listF [.one (.rows asK)] [.one .val] aCln gClAs)).addF 48 (listF [.one (.rows tmK)] [.one .val] aCln gClTe)).addF 49 (listF [.one (.rows msK)] [.one .val] aCln gClMs)
theorem K26_ok : K26.Ok := ((((K25_ok.addF f_clIn).addF f_clCo).addF f_clAs).addF f_clTe).addF f_clMs
end Go.Proofs.Ytpkckgdpdnkbeaa
