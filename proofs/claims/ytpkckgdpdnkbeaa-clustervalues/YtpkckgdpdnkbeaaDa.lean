/- The greatest of stamps: what is to be shown. The greatest of stamps, by symbolic runs. Majorities, stamps, kinds: contracts. Structs held against each other. Checks of operations and messages: contracts; what a phase waits for. Messages as cells. What an operation waits for, and what a node does: contracts. -/
import Derived.Test.YtpkckgdpdnkbeaaXg0
import Derived.Test.YtpkckgdpdnkbeaaZw
namespace Go.Proofs.Ytpkckgdpdnkbeaa
open Go.RowKit
abbrev stK : List LK := [.kInt .i64, .kInt .i64]
def stp (vs : List Value) : St := (intV (hdV vs), intV (hdV (tlV vs)))
/-- what is wrong with the first k -/
def mxE (g : Nat → List Value) : Nat → Int
  | 0 => 0
  | k + 1 => bif mxE g k != 0 then mxE g k else sck (stp (g k))
/-- the greatest of them, up to the first that is wrong -/
def mxW (g : Nat → List Value) : Nat → St
  | 0 => (0, 0)
  | k + 1 => bif mxE g (k + 1) != 0 then mxW g k else bif slt (mxW g k) (stp (g k)) then stp (g k) else mxW g k
def maxE (m : Nat) (g : Nat → List Value) : Int := bif decide (64 < m) then 2 else mxE g m
def maxV (m : Nat) (g : Nat → List Value) : St := bif maxE m g != 0 then (0, 0) else mxW g m
def gMax : List CA → Option Value
  | [.rows _ m g] => some (.tuple ⟨[.agg ⟨[.int .i64 (maxV m g).1, .int .i64 (maxV m g).2]⟩, .int .i64 (maxE m g)]⟩)
  | _ => none
theorem mxE_stop {g : Nat → List Value} {j : Nat} (h0 : mxE g j = 0) (h : sck (stp (g j)) ≠ 0) : ∀ {m}, j < m → mxE g m = sck (stp (g j)) ∧ mxW g m = mxW g j
  | 0, hj => by omega
  | m + 1, hj => by
    by_cases e : j = m
    · subst e
      have h1 : mxE g (j + 1) = sck (stp (g j)) := by unfold mxE; rw [h0]; rfl
      refine ⟨h1, ?_⟩
      show (bif mxE g (j + 1) != 0 then mxW g j else _) = mxW g j
      rw [h1, show (sck (stp (g j)) != 0) = true by simpa using h]
      rfl
    · obtain ⟨i1, i2⟩ := mxE_stop h0 h (m := m) (by omega)
      have h1 : mxE g (m + 1) = sck (stp (g j)) := by unfold mxE; rw [i1, show (sck (stp (g j)) != 0) = true by simpa using h]; rfl
      refine ⟨h1, ?_⟩
      show (bif mxE g (m + 1) != 0 then mxW g m else _) = mxW g j
      rw [h1, show (sck (stp (g j)) != 0) = true by simpa using h]
      exact i2
theorem mxE_step {g : Nat → List Value} {j : Nat} (h0 : mxE g j = 0) (h : sck (stp (g j)) = 0) : mxE g (j + 1) = 0 ∧ mxW g (j + 1) = bif slt (mxW g j) (stp (g j)) then stp (g j) else mxW g j := by
  have h1 : mxE g (j + 1) = 0 := by unfold mxE; rw [h0]; exact h
  refine ⟨h1, ?_⟩
  show (bif mxE g (j + 1) != 0 then _ else _) = _
  rw [h1]
  rfl
def keepMx : AE → List Nat
  | .normal => [2, 4, 13, 14, 15]
  | .exit _ => [2, 4]
  | .ret => [2, 3]
def gMxL : List Value → List AObj → (AE → List Value → List AObj → Out) → Out
  | [.pointer (some ⟨1, 0, none⟩), .pointer (some ⟨2, 0, none⟩), .slice (some ⟨0, 0, some 0⟩) l c, .int .i64 n, .int .i64 i], [.recs sh m g, .cells T1 [.int .i64 a, .int .i64 b], .cells T2 [.int .i64 x, .int .i64 y]], k => (match shEq sh stK with
    | true => .ask (l = m ∧ c = m ∧ n = m ∧ i = 0 ∧ x = 0 ∧ y = 0 ∧ m ≤ 140737488355328)
        (tst (mxE g m != 0) (k .ret [.pointer (some ⟨1, 0, none⟩), .int .i64 (mxE g m)] [.recs sh m g, .cells T1 [.int .i64 0, .int .i64 0], .cells T2 [.int .i64 (mxW g m).1, .int .i64 (mxW g m).2]])
          (k (.exit 0) [.pointer (some ⟨1, 0, none⟩), .pointer (some ⟨2, 0, none⟩)] [.recs sh m g, .cells T1 [.int .i64 a, .int .i64 b], .cells T2 [.int .i64 (mxW g m).1, .int .i64 (mxW g m).2]]))
    | false => .bad)
  | _, _, _ => .bad
def lMx : Nat → Option LCon := oneL 5 (lspec 31 keepMx 3 gMxL)
noncomputable def K12 : Kn := K11.addQ 102 (listC [.one (.rows stK)] gMax)
-- @file mb.out
theorem run_mxB (m k T1 T2 : Nat) (g : Nat → List Value) (a b x y : Int) : ev K11 noL (bodyOf Try.f102 0) ⟨mkSlots 31 [2, 4, 13, 14, 15] [.pointer (some ⟨1, 0, none⟩), .pointer (some ⟨2, 0, none⟩), .slice (some ⟨0, 0, some 0⟩) m m, .int .i64 m, .int .i64 k], [.recs stK m g, .cells T1 [.int .i64 a, .int .i64 b], .cells T2 [.int .i64 x, .int .i64 y]]⟩ (pkG 31 keepMx 3) = tst (decide ((↑k : Int) < (↑m : Int))) (Out.ask ((0 : Int) ≤ (↑k : Int) ∧ (↑k : Int) < (↑m : Int)) (Out.ask (k < m) (tst (sck (intV (hdV (g k)), intV (hdV (tlV (g k)))) != (0 : Int)) (Out.done AE.ret { slots := [some (Value.pointer (some { block := (1 : Nat), off := (0 : Nat) })), some (Value.int IntKind.i64 (sck (intV (hdV (g k)), intV (hdV (tlV (g k))))))], heap := [AObj.recs stK m g, AObj.cells T1 [Value.int IntKind.i64 (0 : Int), Value.int IntKind.i64 (0 : Int)], AObj.cells T2 [Value.int IntKind.i64 x, Value.int IntKind.i64 y]] }) (tst (slt (x, y) (intV (hdV (g k)), intV (hdV (tlV (g k))))) (Out.done AE.normal { slots := [some (Value.pointer (some { block := (1 : Nat), off := (0 : Nat) })), some (Value.pointer (some { block := (2 : Nat), off := (0 : Nat) })), some (Value.slice (some { block := (0 : Nat), off := (0 : Nat), spot := some (0 : Nat) }) m m), some (Value.int IntKind.i64 (↑m : Int)), some (Value.int IntKind.i64 (IntKind.wrap IntKind.i64 ((↑k : Int) + (1 : Int))))], heap := [AObj.recs stK m g, AObj.cells T1 [Value.int IntKind.i64 a, Value.int IntKind.i64 b], AObj.cells T2 [Value.int IntKind.i64 (intV (hdV (g k))), Value.int IntKind.i64 (intV (hdV (tlV (g k))))]] }) (Out.done AE.normal { slots := [some (Value.pointer (some { block := (1 : Nat), off := (0 : Nat) })), some (Value.pointer (some { block := (2 : Nat), off := (0 : Nat) })), some (Value.slice (some { block := (0 : Nat), off := (0 : Nat), spot := some (0 : Nat) }) m m), some (Value.int IntKind.i64 (↑m : Int)), some (Value.int IntKind.i64 (IntKind.wrap IntKind.i64 ((↑k : Int) + (1 : Int))))], heap := [AObj.recs stK m g, AObj.cells T1 [Value.int IntKind.i64 a, Value.int IntKind.i64 b], AObj.cells T2 [Value.int IntKind.i64 x, Value.int IntKind.i64 y]] }))))) (Out.done (AE.exit (0 : Nat)) { slots := [some (Value.pointer (some { block := (1 : Nat), off := (0 : Nat) })), some (Value.pointer (some { block := (2 : Nat), off := (0 : Nat) }))], heap := [AObj.recs stK m g, AObj.cells T1 [Value.int IntKind.i64 a, Value.int IntKind.i64 b], AObj.cells T2 [Value.int IntKind.i64 x, Value.int IntKind.i64 y]] }) := by kernel_rfl
theorem run_mx (m : Nat) (g : Nat → List Value) : evV K11 lMx Try.f102 [.slice (some ⟨0, 0, some 0⟩) m m] [.recs stK m g] = tst (decide ((↑m : Int) > (64 : Int))) (Out.done AE.ret { slots := [some (Value.tuple { toList := [Value.agg { toList := [Value.int IntKind.i64 (0 : Int), Value.int IntKind.i64 (0 : Int)] }, Value.int IntKind.i64 (2 : Int)] })], heap := [] }) (Out.ask (m = m ∧ m = m ∧ (↑m : Int) = (↑m : Int) ∧ (0 : Int) = (0 : Int) ∧ (0 : Int) = (0 : Int) ∧ (0 : Int) = (0 : Int) ∧ m ≤ (140737488355328 : Nat)) (tst (mxE g m != (0 : Int)) (Out.done AE.ret { slots := [some (Value.tuple { toList := [Value.agg { toList := [Value.int IntKind.i64 (0 : Int), Value.int IntKind.i64 (0 : Int)] }, Value.int IntKind.i64 (mxE g m)] })], heap := [] }) (Out.done AE.ret { slots := [some (Value.tuple { toList := [Value.agg { toList := [Value.int IntKind.i64 (mxW g m).1, Value.int IntKind.i64 (mxW g m).2] }, Value.int IntKind.i64 (0 : Int)] })], heap := [] }))) := by kernel_rfl
-- @end
theorem loop_mx : LOk K11.P (bodyOf Try.f102 0) (lspec 31 keepMx 3 gMxL) := lspec_ok K11_ok (L := noL) (fun c' _ F h => by cases h) fun Φ vs H k hm0 h => by
  unfold gMxL at h
  split at h
  · rename_i l c n i sh m g T1 a b T2 x y
    split at h
    · rename_i hsh
      have := shEq_eq hsh
      subst this
      obtain ⟨⟨rfl, rfl, rfl, rfl, rfl, rfl, hb⟩, h⟩ := h
      refine ⟨{j : Nat // j ≤ c ∧ mxE g j = 0}, fun i => [.pointer (some ⟨1, 0, none⟩), .pointer (some ⟨2, 0, none⟩), .slice (some ⟨0, 0, some 0⟩) c c, .int .i64 c, .int .i64 i.1], fun i => [.recs stK c g, .cells T1 [.int .i64 a, .int .i64 b], .cells T2 [.int .i64 (mxW g i.1).1, .int .i64 (mxW g i.1).2]], fun i => c - i.1, ⟨0, by omega, rfl⟩, rfl, rfl, ?_⟩
      rintro ⟨j, hj, hz⟩
      show (ev K11 noL _ ⟨mkSlots 31 [2, 4, 13, 14, 15] [.pointer (some ⟨1, 0, none⟩), .pointer (some ⟨2, 0, none⟩), .slice (some ⟨0, 0, some 0⟩) c c, .int .i64 c, .int .i64 j], [.recs stK c g, .cells T1 [.int .i64 a, .int .i64 b], .cells T2 [.int .i64 (mxW g j).1, .int .i64 (mxW g j).2]]⟩ (pkG 31 keepMx 3)).sat _
      rw [run_mxB]
      refine sat_tst (fun ht => ?_) (fun ht => ?_)
      · have hlt : j < c := by have := of_decide_eq_true ht; omega
        refine sat_ask ⟨by omega, by omega⟩ (sat_ask hlt (sat_tst (fun hc => ?_) (fun hc => ?_)))
        · have hc : (sck (stp (g j)) != 0) = true := hc
          have hc : sck (stp (g j)) ≠ 0 := by simpa using hc
          obtain ⟨e1, e2⟩ := mxE_stop hz hc hlt
          rw [e1, e2, show (sck (stp (g j)) != 0) = true by simpa using hc] at h
          exact ⟨_, rfl, h⟩
        · have hc : (sck (stp (g j)) != 0) = false := hc
          have hc : sck (stp (g j)) = 0 := by simpa using hc
          obtain ⟨e1, e2⟩ := mxE_step hz hc
          refine sat_tst (fun hs => ?_) (fun hs => ?_)
          · have hs : slt (mxW g j) (stp (g j)) = true := hs
            rw [hs] at e2
            have e2 : mxW g (j + 1) = stp (g j) := e2
            refine ⟨⟨j + 1, by omega, e1⟩, ?_, ?_, by show c - (j + 1) < c - j; omega⟩
            · show [some _, some _, some _, some _, some (Value.int .i64 _)] = [some _, some _, some _, some _, some (Value.int .i64 _)]
              rw [wrap_at hlt hb]
            · show [AObj.recs stK c g, AObj.cells T1 _, AObj.cells T2 _] = [AObj.recs stK c g, AObj.cells T1 _, AObj.cells T2 [.int .i64 (mxW g (j + 1)).1, .int .i64 (mxW g (j + 1)).2]]
              rw [e2]
              rfl
          · have hs : slt (mxW g j) (stp (g j)) = false := hs
            rw [hs] at e2
            have e2 : mxW g (j + 1) = mxW g j := e2
            refine ⟨⟨j + 1, by omega, e1⟩, ?_, ?_, by show c - (j + 1) < c - j; omega⟩
            · show [some _, some _, some _, some _, some (Value.int .i64 _)] = [some _, some _, some _, some _, some (Value.int .i64 _)]
              rw [wrap_at hlt hb]
            · show [AObj.recs stK c g, AObj.cells T1 _, AObj.cells T2 _] = [AObj.recs stK c g, AObj.cells T1 _, AObj.cells T2 [.int .i64 (mxW g (j + 1)).1, .int .i64 (mxW g (j + 1)).2]]
              rw [e2]
      · have hge : j = c := by have := of_decide_eq_false ht; omega
        subst hge
        rw [hz] at h
        exact ⟨_, rfl, h⟩
    · exact h.elim
  · exact h.elim
theorem lMx_ok : ∀ F, lMx (key (bodyOf Try.f102 0)) = some F → LOk K11.P (bodyOf Try.f102 0) F := fun F h => by
  have hk : lMx (key (bodyOf Try.f102 0)) = some (lspec 31 keepMx 3 gMxL) := by kernel_rfl
  rw [hk] at h
  cases h
  exact loop_mx
theorem q_mx : QOk K11.P 102 (listC [.one (.rows stK)] gMax) := list_q K11_ok Try.func102 rfl rfl (one_loop (by kernel_rfl) lMx_ok) fun cas r hb hk h => by
  unfold gMax at h
  split at h
  · rename_i sh m g
    obtain ⟨rfl, -⟩ := hk
    obtain ⟨hb, -⟩ := hb
    cases h
    refine ⟨rfl, ?_⟩
    show (evV K11 lMx _ [.slice (some ⟨0, 0, some 0⟩) m m] [.recs stK m g]).sat _
    rw [run_mx]
    unfold maxV maxE
    refine sat_tst (fun h => ?_) fun h0 => ?_
    · rw [show decide (64 < m) = true from decide_eq_true (by have := of_decide_eq_true h; omega)]
      rfl
    · rw [show decide (64 < m) = false from decide_eq_false (by have := of_decide_eq_false h0; omega)]
      refine sat_ask ⟨rfl, rfl, rfl, rfl, rfl, rfl, hb⟩ (sat_tst (fun h => ?_) fun h => ?_)
      · simp only [cond_false, h, cond_true]
        rfl
      · have e : mxE g m = 0 := by simpa using h
        simp only [cond_false, h]
        show [some _] = [some _]
        rw [e]
  · cases h
theorem K12_ok : K12.Ok := K11_ok.addQ q_mx
-- @file mc.out
theorem run_enough (m : Nat) (g : Nat → List Value) (need : Int) (s : Int) : evV K12 noL Try.f21 [.slice (some ⟨0, 0, some 0⟩) m m, .int .i64 need, .int .u64 s] [.recs wtK m g] = Out.ask (m ≤ m ∧ m ≤ (140737488355328 : Nat)) (tst (qE (wsOf m fun j => g j) need != (0 : Int)) (Out.done AE.ret { slots := [some (Value.tuple { toList := [Value.bool false, Value.int IntKind.i64 (qE (wsOf m fun j => g j) need)] })], heap := [] }) (Out.ask (m ≤ m ∧ m ≤ (140737488355328 : Nat)) (Out.done AE.ret { slots := [some (Value.tuple { toList := [Value.bool (decide (sV (wsOf m fun j => g (j + (0 : Nat))) s ≥ need)), Value.int IntKind.i64 (sE (wsOf m fun j => g j) s)] })], heap := [] }))) := by kernel_rfl
def x0_enough (m : Nat) (g : Nat → List Value) (need : Int) (s : Int) : Bool := (bif qE (wsOf m fun j => g j) need != (0 : Int) then (false) else (decide (sV (wsOf m fun j => g (j + (0 : Nat))) s ≥ need)))
def x1_enough (m : Nat) (g : Nat → List Value) (need : Int) (s : Int) : Int := (bif qE (wsOf m fun j => g j) need != (0 : Int) then (qE (wsOf m fun j => g j) need) else (sE (wsOf m fun j => g j) s))
def g_enough : List CA → Option Value
  | [.rows _ m g, .val (.int .i64 need), .val (.int .u64 s)] => some (.tuple ⟨[.bool (x0_enough m g need s), .int .i64 (x1_enough m g need s)]⟩)
  | _ => none
theorem q_enough : QOk K12.P 21 (listC [.one (.rows wtK), .one .val, .one .val] g_enough) := list_q K12_ok Try.func21 rfl rfl (no_loops rfl) fun cas r hb hk h => by
  unfold g_enough at h
  split at h
  · rename_i sh0 m g need s
    have e0 := kind_rows (i := 0) hk rfl rfl
    have hbm := bnd_rows (i := 0) hb rfl
    subst e0
    cases h
    refine ⟨rfl, ?_⟩
    show (evV K12 noL _ [.slice (some ⟨0, 0, some 0⟩) m m, .int .i64 need, .int .u64 s] [.recs wtK m g]).sat _
    rw [run_enough]
    exact sat_ask (by first | omega | exact ⟨Nat.le_refl _, by assumption⟩ | exact ⟨rfl, rfl⟩ | simp_all) (sat_tst (fun h0 => leaf_v (by simp only [x0_enough, x1_enough, h0, cond_true])) (fun h0 => sat_ask (by first | omega | exact ⟨Nat.le_refl _, by assumption⟩ | exact ⟨rfl, rfl⟩ | simp_all) (leaf_v (by simp only [x0_enough, x1_enough, h0, cond_false]))))
  · cases h
theorem run_rsc (t : Int) (u : Int) : evV K12 noL Try.f60 [.agg ⟨[.int .i64 t, .int .i64 u]⟩] [] = tst (decide (t < (0 : Int))) (Out.done AE.ret { slots := [some (Value.int IntKind.i64 (3 : Int))], heap := [] }) (tst (decide (t > (1000000 : Int))) (Out.done AE.ret { slots := [some (Value.int IntKind.i64 (3 : Int))], heap := [] }) (tst (decide (u < (0 : Int))) (Out.done AE.ret { slots := [some (Value.int IntKind.i64 (3 : Int))], heap := [] }) (tst (decide (u > (31 : Int))) (Out.done AE.ret { slots := [some (Value.int IntKind.i64 (3 : Int))], heap := [] }) (Out.done AE.ret { slots := [some (Value.int IntKind.i64 (0 : Int))], heap := [] })))) := by kernel_rfl
def x_rsc (t : Int) (u : Int) : Int := (bif decide (t < (0 : Int)) then (3 : Int) else (bif decide (t > (1000000 : Int)) then (3 : Int) else (bif decide (u < (0 : Int)) then (3 : Int) else (bif decide (u > (31 : Int)) then (3 : Int) else (0 : Int)))))
def g_rsc : List CA → Option Value
  | [.val (.agg ⟨[.int .i64 t, .int .i64 u]⟩)] => some (.int .i64 (x_rsc t u))
  | _ => none
theorem q_rsc : QOk K12.P 60 (listC [.one .val] g_rsc) := list_q K12_ok Try.func60 rfl rfl (no_loops rfl) fun cas r hb hk h => by
  unfold g_rsc at h
  split at h
  · rename_i t u
    cases h
    refine ⟨rfl, ?_⟩
    show (evV K12 noL _ [.agg ⟨[.int .i64 t, .int .i64 u]⟩] []).sat _
    rw [run_rsc]
    exact sat_tst (fun h0 => leaf_v (by simp only [x_rsc, h0, cond_true])) (fun h0 => sat_tst (fun h1 => leaf_v (by simp only [x_rsc, h0, h1, cond_true, cond_false])) (fun h1 => sat_tst (fun h2 => leaf_v (by simp only [x_rsc, h0, h1, h2, cond_true, cond_false])) (fun h2 => sat_tst (fun h3 => leaf_v (by simp only [x_rsc, h0, h1, h2, h3, cond_true, cond_false])) (fun h3 => leaf_v (by simp only [x_rsc, h0, h1, h2, h3, cond_false])))))
  · cases h
theorem run_rsl (t : Int) (u : Int) (x : Int) (y : Int) : evV K12 noL Try.f85 [.agg ⟨[.int .i64 t, .int .i64 u]⟩, .agg ⟨[.int .i64 x, .int .i64 y]⟩] [] = tst (t == x) (Out.done AE.ret { slots := [some (Value.bool (decide (u < y)))], heap := [] }) (Out.done AE.ret { slots := [some (Value.bool (decide (t < x)))], heap := [] }) := by kernel_rfl
def x_rsl (t : Int) (u : Int) (x : Int) (y : Int) : Bool := (bif t == x then (decide (u < y)) else (decide (t < x)))
def g_rsl : List CA → Option Value
  | [.val (.agg ⟨[.int .i64 t, .int .i64 u]⟩), .val (.agg ⟨[.int .i64 x, .int .i64 y]⟩)] => some (.bool (x_rsl t u x y))
  | _ => none
theorem q_rsl : QOk K12.P 85 (listC [.one .val, .one .val] g_rsl) := list_q K12_ok Try.func85 rfl rfl (no_loops rfl) fun cas r hb hk h => by
  unfold g_rsl at h
  split at h
  · rename_i t u x y
    cases h
    refine ⟨rfl, ?_⟩
    show (evV K12 noL _ [.agg ⟨[.int .i64 t, .int .i64 u]⟩, .agg ⟨[.int .i64 x, .int .i64 y]⟩] []).sat _
    rw [run_rsl]
    exact sat_tst (fun h0 => leaf_v (by simp only [x_rsl, h0, cond_true])) (fun h0 => leaf_v (by simp only [x_rsl, h0, cond_false]))
  · cases h
theorem run_at (t : Int) (u : Int) : evV K12 noL Try.f55 [.int .i64 t, .int .i64 u] [] = Out.done AE.ret { slots := [some (Value.agg { toList := [Value.int IntKind.i64 t, Value.int IntKind.i64 u] })], heap := [] } := by kernel_rfl
def x0_at (t : Int) : Int := (t)
def x1_at (u : Int) : Int := (u)
def g_at : List CA → Option Value
  | [.val (.int .i64 t), .val (.int .i64 u)] => some (.agg ⟨[.int .i64 (x0_at t), .int .i64 (x1_at u)]⟩)
  | _ => none
theorem q_at : QOk K12.P 55 (listC [.one .val, .one .val] g_at) := list_q K12_ok Try.func55 rfl rfl (no_loops rfl) fun cas r hb hk h => by
  unfold g_at at h
  split at h
  · rename_i t u
    cases h
    refine ⟨rfl, ?_⟩
    show (evV K12 noL _ [.int .i64 t, .int .i64 u] []).sat _
    rw [run_at]
    exact leaf_v rfl
  · cases h
theorem run_next (m : Nat) (g : Nat → List Value) (who : Int) : evV K12 noL Try.f101 [.slice (some ⟨0, 0, some 0⟩) m m, .int .i64 who] [.recs stK m g] = Out.ask (m ≤ m ∧ m ≤ (140737488355328 : Nat)) (tst ((maxE m fun j => g j) != (0 : Int)) (Out.done AE.ret { slots := [some (Value.tuple { toList := [Value.agg { toList := [Value.int IntKind.i64 (0 : Int), Value.int IntKind.i64 (0 : Int)] }, Value.int IntKind.i64 (maxE m fun j => g j)] })], heap := [] }) (tst (sck (IntKind.wrap IntKind.i64 ((maxV m fun j => g j).1 + (1 : Int)), who) != (0 : Int)) (Out.done AE.ret { slots := [some (Value.tuple { toList := [Value.agg { toList := [Value.int IntKind.i64 (0 : Int), Value.int IntKind.i64 (0 : Int)] }, Value.int IntKind.i64 (sck (IntKind.wrap IntKind.i64 ((maxV m fun j => g j).1 + (1 : Int)), who))] })], heap := [] }) (Out.done AE.ret { slots := [some (Value.tuple { toList := [Value.agg { toList := [Value.int IntKind.i64 (IntKind.wrap IntKind.i64 ((maxV m fun j => g j).1 + (1 : Int))), Value.int IntKind.i64 who] }, Value.int IntKind.i64 (0 : Int)] })], heap := [] }))) := by kernel_rfl
def x0_next (m : Nat) (g : Nat → List Value) (who : Int) : Int := (bif (maxE m fun j => g j) != (0 : Int) then (0 : Int) else (bif sck (IntKind.wrap IntKind.i64 ((maxV m fun j => g j).1 + (1 : Int)), who) != (0 : Int) then (0 : Int) else (IntKind.wrap IntKind.i64 ((maxV m fun j => g j).1 + (1 : Int)))))
def x1_next (m : Nat) (g : Nat → List Value) (who : Int) : Int := (bif (maxE m fun j => g j) != (0 : Int) then (0 : Int) else (bif sck (IntKind.wrap IntKind.i64 ((maxV m fun j => g j).1 + (1 : Int)), who) != (0 : Int) then (0 : Int) else (who)))
def x2_next (m : Nat) (g : Nat → List Value) (who : Int) : Int := (bif (maxE m fun j => g j) != (0 : Int) then (maxE m fun j => g j) else (bif sck (IntKind.wrap IntKind.i64 ((maxV m fun j => g j).1 + (1 : Int)), who) != (0 : Int) then (sck (IntKind.wrap IntKind.i64 ((maxV m fun j => g j).1 + (1 : Int)), who)) else (0 : Int)))
def g_next : List CA → Option Value
  | [.rows _ m g, .val (.int .i64 who)] => some (.tuple ⟨[.agg ⟨[.int .i64 (x0_next m g who), .int .i64 (x1_next m g who)]⟩, .int .i64 (x2_next m g who)]⟩)
  | _ => none
theorem q_next : QOk K12.P 101 (listC [.one (.rows stK), .one .val] g_next) := list_q K12_ok Try.func101 rfl rfl (no_loops rfl) fun cas r hb hk h => by
  unfold g_next at h
  split at h
  · rename_i sh0 m g who
    have e0 := kind_rows (i := 0) hk rfl rfl
    have hbm := bnd_rows (i := 0) hb rfl
    subst e0
    cases h
    refine ⟨rfl, ?_⟩
    show (evV K12 noL _ [.slice (some ⟨0, 0, some 0⟩) m m, .int .i64 who] [.recs stK m g]).sat _
    rw [run_next]
    exact sat_ask (by first | omega | exact ⟨Nat.le_refl _, by assumption⟩ | exact ⟨rfl, rfl⟩ | simp_all) (sat_tst (fun h0 => leaf_v (by simp only [x0_next, x1_next, x2_next, h0, cond_true])) (fun h0 => sat_tst (fun h1 => leaf_v (by simp only [x0_next, x1_next, x2_next, h0, h1, cond_true, cond_false])) (fun h1 => leaf_v (by simp only [x0_next, x1_next, x2_next, h0, h1, cond_false]))))
  · cases h
theorem run_akind (x : Int) : evV K12 noL Try.f75 [.int .i64 x] [] = tst (x == (1 : Int)) (Out.done AE.ret { slots := [some (Value.bool true)], heap := [] }) (Out.done AE.ret { slots := [some (Value.bool (x == (2 : Int)))], heap := [] }) := by kernel_rfl
def x_akind (x : Int) : Bool := (bif x == (1 : Int) then (true) else (x == (2 : Int)))
def g_akind : List CA → Option Value
  | [.val (.int .i64 x)] => some (.bool (x_akind x))
  | _ => none
theorem q_akind : QOk K12.P 75 (listC [.one .val] g_akind) := list_q K12_ok Try.func75 rfl rfl (no_loops rfl) fun cas r hb hk h => by
  unfold g_akind at h
  split at h
  · rename_i x
    cases h
    refine ⟨rfl, ?_⟩
    show (evV K12 noL _ [.int .i64 x] []).sat _
    rw [run_akind]
    exact sat_tst (fun h0 => leaf_v (by simp only [x_akind, h0, cond_true])) (fun h0 => leaf_v (by simp only [x_akind, h0, cond_false]))
  · cases h
theorem run_aphase (x : Int) : evV K12 noL Try.f76 [.int .i64 x] [] = tst (decide ((1 : Int) ≤ x)) (Out.done AE.ret { slots := [some (Value.bool (decide (x ≤ (3 : Int))))], heap := [] }) (Out.done AE.ret { slots := [some (Value.bool false)], heap := [] }) := by kernel_rfl
def x_aphase (x : Int) : Bool := (bif decide ((1 : Int) ≤ x) then (decide (x ≤ (3 : Int))) else (false))
def g_aphase : List CA → Option Value
  | [.val (.int .i64 x)] => some (.bool (x_aphase x))
  | _ => none
theorem q_aphase : QOk K12.P 76 (listC [.one .val] g_aphase) := list_q K12_ok Try.func76 rfl rfl (no_loops rfl) fun cas r hb hk h => by
  unfold g_aphase at h
  split at h
  · rename_i x
    cases h
    refine ⟨rfl, ?_⟩
    show (evV K12 noL _ [.int .i64 x] []).sat _
    rw [run_aphase]
    exact sat_tst (fun h0 => leaf_v (by simp only [x_aphase, h0, cond_true])) (fun h0 => leaf_v (by simp only [x_aphase, h0, cond_false]))
  · cases h
theorem run_wkind (x : Int) : evV K12 noL Try.f77 [.int .i64 x] [] = tst (decide ((1 : Int) ≤ x)) (Out.done AE.ret { slots := [some (Value.bool (decide (x ≤ (4 : Int))))], heap := [] }) (Out.done AE.ret { slots := [some (Value.bool false)], heap := [] }) := by kernel_rfl
def x_wkind (x : Int) : Bool := (bif decide ((1 : Int) ≤ x) then (decide (x ≤ (4 : Int))) else (false))
def g_wkind : List CA → Option Value
  | [.val (.int .i64 x)] => some (.bool (x_wkind x))
  | _ => none
theorem q_wkind : QOk K12.P 77 (listC [.one .val] g_wkind) := list_q K12_ok Try.func77 rfl rfl (no_loops rfl) fun cas r hb hk h => by
  unfold g_wkind at h
  split at h
  · rename_i x
    cases h
    refine ⟨rfl, ?_⟩
    show (evV K12 noL _ [.int .i64 x] []).sat _
    rw [run_wkind]
    exact sat_tst (fun h0 => leaf_v (by simp only [x_wkind, h0, cond_true])) (fun h0 => leaf_v (by simp only [x_wkind, h0, cond_false]))
  · cases h
theorem run_wcopy (x : Int) : evV K12 noL Try.f78 [.int .i64 x] [] = tst (x == (2 : Int)) (Out.done AE.ret { slots := [some (Value.bool true)], heap := [] }) (Out.done AE.ret { slots := [some (Value.bool (x == (3 : Int)))], heap := [] }) := by kernel_rfl
def x_wcopy (x : Int) : Bool := (bif x == (2 : Int) then (true) else (x == (3 : Int)))
def g_wcopy : List CA → Option Value
  | [.val (.int .i64 x)] => some (.bool (x_wcopy x))
  | _ => none
theorem q_wcopy : QOk K12.P 78 (listC [.one .val] g_wcopy) := list_q K12_ok Try.func78 rfl rfl (no_loops rfl) fun cas r hb hk h => by
  unfold g_wcopy at h
  split at h
  · rename_i x
    cases h
    refine ⟨rfl, ?_⟩
    show (evV K12 noL _ [.int .i64 x] []).sat _
    rw [run_wcopy]
    exact sat_tst (fun h0 => leaf_v (by simp only [x_wcopy, h0, cond_true])) (fun h0 => leaf_v (by simp only [x_wcopy, h0, cond_false]))
  · cases h
theorem run_rhas (x : Int) : evV K12 noL Try.f61 [.int .i64 x] [] = tst (x == (2 : Int)) (Out.done AE.ret { slots := [some (Value.bool true)], heap := [] }) (Out.done AE.ret { slots := [some (Value.bool (x == (3 : Int)))], heap := [] }) := by kernel_rfl
def x_rhas (x : Int) : Bool := (bif x == (2 : Int) then (true) else (x == (3 : Int)))
def g_rhas : List CA → Option Value
  | [.val (.int .i64 x)] => some (.bool (x_rhas x))
  | _ => none
theorem q_rhas : QOk K12.P 61 (listC [.one .val] g_rhas) := list_q K12_ok Try.func61 rfl rfl (no_loops rfl) fun cas r hb hk h => by
  unfold g_rhas at h
  split at h
  · rename_i x
    cases h
    refine ⟨rfl, ?_⟩
    show (evV K12 noL _ [.int .i64 x] []).sat _
    rw [run_rhas]
    exact sat_tst (fun h0 => leaf_v (by simp only [x_rhas, h0, cond_true])) (fun h0 => leaf_v (by simp only [x_rhas, h0, cond_false]))
  · cases h
theorem run_store (t : Int) (w : Int) (s : ByteArray) (x : Int) (y : Int) (z : ByteArray) : evV K12 noL Try.f91 [.agg ⟨[.int .i64 t, .int .i64 w, .string s]⟩, .agg ⟨[.int .i64 x, .int .i64 y, .string z]⟩] [] = Out.ask ((2 : Nat) ≤ (2 : Nat) ∧ (2 : Nat) ≤ (140737488355328 : Nat)) (tst (cks [((t, w), s), ((x, y), z)] != (0 : Int)) (Out.done AE.ret { slots := [some (Value.tuple { toList := [Value.agg { toList := [Value.int IntKind.i64 (0 : Int), Value.int IntKind.i64 (0 : Int), Value.string { data := { toList := [] } }] }, Value.int IntKind.i64 (cks [((t, w), s), ((x, y), z)])] })], heap := [] }) (Out.done AE.ret { slots := [some (Value.tuple { toList := [Value.agg { toList := [Value.int IntKind.i64 (ltr ((t, w), s) ((x, y), z)).1.1, Value.int IntKind.i64 (ltr ((t, w), s) ((x, y), z)).1.2, Value.string (ltr ((t, w), s) ((x, y), z)).2] }, Value.int IntKind.i64 (0 : Int)] })], heap := [] })) := by kernel_rfl
def x0_store (t : Int) (w : Int) (s : ByteArray) (x : Int) (y : Int) (z : ByteArray) : Int := (bif cks [((t, w), s), ((x, y), z)] != (0 : Int) then (0 : Int) else ((ltr ((t, w), s) ((x, y), z)).1.1))
def x1_store (t : Int) (w : Int) (s : ByteArray) (x : Int) (y : Int) (z : ByteArray) : Int := (bif cks [((t, w), s), ((x, y), z)] != (0 : Int) then (0 : Int) else ((ltr ((t, w), s) ((x, y), z)).1.2))
def x2_store (t : Int) (w : Int) (s : ByteArray) (x : Int) (y : Int) (z : ByteArray) : ByteArray := (bif cks [((t, w), s), ((x, y), z)] != (0 : Int) then ({ data := { toList := [] } }) else ((ltr ((t, w), s) ((x, y), z)).2))
def x3_store (t : Int) (w : Int) (s : ByteArray) (x : Int) (y : Int) (z : ByteArray) : Int := (bif cks [((t, w), s), ((x, y), z)] != (0 : Int) then (cks [((t, w), s), ((x, y), z)]) else (0 : Int))
def g_store : List CA → Option Value
  | [.val (.agg ⟨[.int .i64 t, .int .i64 w, .string s]⟩), .val (.agg ⟨[.int .i64 x, .int .i64 y, .string z]⟩)] => some (.tuple ⟨[.agg ⟨[.int .i64 (x0_store t w s x y z), .int .i64 (x1_store t w s x y z), .string (x2_store t w s x y z)]⟩, .int .i64 (x3_store t w s x y z)]⟩)
  | _ => none
theorem q_store : QOk K12.P 91 (listC [.one .val, .one .val] g_store) := list_q K12_ok Try.func91 rfl rfl (no_loops rfl) fun cas r hb hk h => by
  unfold g_store at h
  split at h
  · rename_i t w s x y z
    cases h
    refine ⟨rfl, ?_⟩
    show (evV K12 noL _ [.agg ⟨[.int .i64 t, .int .i64 w, .string s]⟩, .agg ⟨[.int .i64 x, .int .i64 y, .string z]⟩] []).sat _
    rw [run_store]
    exact sat_ask (by first | omega | exact ⟨Nat.le_refl _, by assumption⟩ | exact ⟨rfl, rfl⟩ | simp_all) (sat_tst (fun h0 => leaf_v (by simp only [x0_store, x1_store, x2_store, x3_store, h0, cond_true])) (fun h0 => leaf_v (by simp only [x0_store, x1_store, x2_store, x3_store, h0, cond_false])))
  · cases h
-- @end
-- @file mc.chain
noncomputable def K13 : Kn := ((((((((((K12.addQ 21 (listC [.one (.rows wtK), .one .val, .one .val] g_enough)).addQ 60 (listC [.one .val] g_rsc)).addQ 85 (listC [.one .val, .one .val] g_rsl)).addQ 55 (listC [.one .val, .one .val] g_at)).addQ 101 (listC [.one (.rows stK), .one .val] g_next)).addQ 75 (listC [.one .val] g_akind)).addQ 76 (listC [.one .val] g_aphase)).addQ 77 (listC [.one .val] g_wkind)).addQ 78 (listC [.one .val] g_wcopy)).addQ 61 (listC [.one .val] g_rhas)).addQ 91 (listC [.one .val, .one .val] g_store)
theorem K13_ok : K13.Ok := ((((((((((K12_ok.addQ q_enough).addQ q_rsc).addQ q_rsl).addQ q_at).addQ q_next).addQ q_akind).addQ q_aphase).addQ q_wkind).addQ q_wcopy).addQ q_rhas).addQ q_store
-- @end
-- @file md.eq
def e_stamp : Value → Value → Option Bool
  | .agg ⟨[.int .i64 a0, .int .i64 a1]⟩, .agg ⟨[.int .i64 b0, .int .i64 b1]⟩ => some (decide (a0 = b0 ∧ a1 = b1))
  | _, _ => none
theorem e_stamp_ok : EOk K13.P 48 e_stamp := by
  refine ⟨by kernel_rfl, fun x y b h => ?_⟩
  unfold e_stamp at h
  split at h
  · rename_i a0 a1 b0 b1
    cases h
    refine ⟨⟨_, rfl⟩, ⟨_, rfl⟩, fun w => ?_⟩
    show Sem.run Try.prog (Op.equal 48 (.agg #[.int .i64 a0, .int .i64 a1]) (.agg #[.int .i64 b0, .int .i64 b1])) w = _
    unfold Op.equal Op.maxDepth Op.equalIn
    simp [go_sem]
    by_cases h0 : a0 = b0
    rotate_left
    · simp [h0]
    simp [h0]
    by_cases h1 : a1 = b1
    rotate_left
    · simp [h1]
    simp [h1]
  · cases h
def e_copy : Value → Value → Option Bool
  | .agg ⟨[.int .i64 a0, .int .i64 a1, .string a2]⟩, .agg ⟨[.int .i64 b0, .int .i64 b1, .string b2]⟩ => some (decide (a0 = b0 ∧ a1 = b1 ∧ a2 = b2))
  | _, _ => none
theorem e_copy_ok : EOk K13.P 50 e_copy := by
  refine ⟨by kernel_rfl, fun x y b h => ?_⟩
  unfold e_copy at h
  split at h
  · rename_i a0 a1 a2 b0 b1 b2
    cases h
    refine ⟨⟨_, rfl⟩, ⟨_, rfl⟩, fun w => ?_⟩
    show Sem.run Try.prog (Op.equal 50 (.agg #[.int .i64 a0, .int .i64 a1, .string a2]) (.agg #[.int .i64 b0, .int .i64 b1, .string b2])) w = _
    unfold Op.equal Op.maxDepth Op.equalIn
    simp [go_sem, bal_inj]
    by_cases h0 : a0 = b0
    rotate_left
    · simp [h0]
    simp [h0]
    by_cases h1 : a1 = b1
    rotate_left
    · simp [h1]
    simp [h1]
    by_cases h2 : a2 = b2
    rotate_left
    · simp [h2]
    simp [h2]
  · cases h
def e_msg : Value → Value → Option Bool
  | .agg ⟨[.int .i64 a0, .int .i64 a1, .int .i64 a2, .int .i64 a3, .int .i64 a4, .string a5]⟩, .agg ⟨[.int .i64 b0, .int .i64 b1, .int .i64 b2, .int .i64 b3, .int .i64 b4, .string b5]⟩ => some (decide (a0 = b0 ∧ a1 = b1 ∧ a2 = b2 ∧ a3 = b3 ∧ a4 = b4 ∧ a5 = b5))
  | _, _ => none
theorem e_msg_ok : EOk K13.P 68 e_msg := by
  refine ⟨by kernel_rfl, fun x y b h => ?_⟩
  unfold e_msg at h
  split at h
  · rename_i a0 a1 a2 a3 a4 a5 b0 b1 b2 b3 b4 b5
    cases h
    refine ⟨⟨_, rfl⟩, ⟨_, rfl⟩, fun w => ?_⟩
    show Sem.run Try.prog (Op.equal 68 (.agg #[.int .i64 a0, .int .i64 a1, .int .i64 a2, .int .i64 a3, .int .i64 a4, .string a5]) (.agg #[.int .i64 b0, .int .i64 b1, .int .i64 b2, .int .i64 b3, .int .i64 b4, .string b5])) w = _
    unfold Op.equal Op.maxDepth Op.equalIn
    simp [go_sem, bal_inj]
    by_cases h0 : a0 = b0
    rotate_left
    · simp [h0]
    simp [h0]
    by_cases h1 : a1 = b1
    rotate_left
    · simp [h1]
    simp [h1]
    by_cases h2 : a2 = b2
    rotate_left
    · simp [h2]
    simp [h2]
    by_cases h3 : a3 = b3
    rotate_left
    · simp [h3]
    simp [h3]
    by_cases h4 : a4 = b4
    rotate_left
    · simp [h4]
    simp [h4]
    by_cases h5 : a5 = b5
    rotate_left
    · simp [h5]
    simp [h5]
  · cases h
def e_ask : Value → Value → Option Bool
  | .agg ⟨[.int .i64 a0, .int .i64 a1, .int .i64 a2, .string a3, .int .i64 a4, .int .i64 a5, .string a6, .int .u64 a7]⟩, .agg ⟨[.int .i64 b0, .int .i64 b1, .int .i64 b2, .string b3, .int .i64 b4, .int .i64 b5, .string b6, .int .u64 b7]⟩ => some (decide (a0 = b0 ∧ a1 = b1 ∧ a2 = b2 ∧ a3 = b3 ∧ a4 = b4 ∧ a5 = b5 ∧ a6 = b6 ∧ a7 = b7))
  | _, _ => none
theorem e_ask_ok : EOk K13.P 53 e_ask := by
  refine ⟨by kernel_rfl, fun x y b h => ?_⟩
  unfold e_ask at h
  split at h
  · rename_i a0 a1 a2 a3 a4 a5 a6 a7 b0 b1 b2 b3 b4 b5 b6 b7
    cases h
    refine ⟨⟨_, rfl⟩, ⟨_, rfl⟩, fun w => ?_⟩
    show Sem.run Try.prog (Op.equal 53 (.agg #[.int .i64 a0, .int .i64 a1, .int .i64 a2, .string a3, .int .i64 a4, .int .i64 a5, .string a6, .int .u64 a7]) (.agg #[.int .i64 b0, .int .i64 b1, .int .i64 b2, .string b3, .int .i64 b4, .int .i64 b5, .string b6, .int .u64 b7])) w = _
    unfold Op.equal Op.maxDepth Op.equalIn
    simp [go_sem, bal_inj]
    by_cases h0 : a0 = b0
    rotate_left
    · simp [h0]
    simp [h0]
    by_cases h1 : a1 = b1
    rotate_left
    · simp [h1]
    simp [h1]
    by_cases h2 : a2 = b2
    rotate_left
    · simp [h2]
    simp [h2]
    by_cases h3 : a3 = b3
    rotate_left
    · simp [h3]
    simp [h3]
    by_cases h4 : a4 = b4
    rotate_left
    · simp [h4]
    simp [h4]
    by_cases h5 : a5 = b5
    rotate_left
    · simp [h5]
    simp [h5]
    by_cases h6 : a6 = b6
    rotate_left
    · simp [h6]
    simp [h6]
    by_cases h7 : a7 = b7
    rotate_left
    · simp [h7]
    simp [h7]
  · cases h
noncomputable def K14 : Kn := (((K13.addE 48 e_stamp).addE 50 e_copy).addE 68 e_msg).addE 53 e_ask
theorem K14_ok : K14.Ok := (((K13_ok.addE e_stamp_ok).addE e_copy_ok).addE e_msg_ok).addE e_ask_ok
-- @end
-- @file md.out
theorem run_block (t : Int) (u : Int) (s : ByteArray) : evV K14 noL Try.f31 [.int .i64 t, .int .i64 u, .string s] [] = Out.done AE.ret { slots := [some (Value.agg { toList := [Value.int IntKind.i64 t, Value.int IntKind.i64 u, Value.string s] })], heap := [] } := by kernel_rfl
def x0_block (t : Int) : Int := (t)
def x1_block (u : Int) : Int := (u)
def x2_block (s : ByteArray) : ByteArray := (s)
def g_block : List CA → Option Value
  | [.val (.int .i64 t), .val (.int .i64 u), .val (.string s)] => some (.agg ⟨[.int .i64 (x0_block t), .int .i64 (x1_block u), .string (x2_block s)]⟩)
  | _ => none
theorem q_block : QOk K14.P 31 (listC [.one .val, .one .val, .one .val] g_block) := list_q K14_ok Try.func31 rfl rfl (no_loops rfl) fun cas r hb hk h => by
  unfold g_block at h
  split at h
  · rename_i t u s
    cases h
    refine ⟨rfl, ?_⟩
    show (evV K14 noL _ [.int .i64 t, .int .i64 u, .string s] []).sat _
    rw [run_block]
    exact leaf_v rfl
  · cases h
theorem run_rcc (t : Int) (w : Int) (s : ByteArray) : evV K14 noL Try.f39 [.agg ⟨[.int .i64 t, .int .i64 w, .string s]⟩] [] = tst (x_rsc t w == (0 : Int)) (tst (decide ((↑(ByteArray.size s) : Int) > (64 : Int))) (Out.done AE.ret { slots := [some (Value.int IntKind.i64 (2 : Int))], heap := [] }) (Out.done AE.ret { slots := [some (Value.int IntKind.i64 (x_rsc t w))], heap := [] })) (Out.done AE.ret { slots := [some (Value.int IntKind.i64 (x_rsc t w))], heap := [] }) := by kernel_rfl
def x_rcc (t : Int) (w : Int) (s : ByteArray) : Int := (bif x_rsc t w == (0 : Int) then (bif decide ((↑(ByteArray.size s) : Int) > (64 : Int)) then (2 : Int) else (x_rsc t w)) else (x_rsc t w))
def g_rcc : List CA → Option Value
  | [.val (.agg ⟨[.int .i64 t, .int .i64 w, .string s]⟩)] => some (.int .i64 (x_rcc t w s))
  | _ => none
theorem q_rcc : QOk K14.P 39 (listC [.one .val] g_rcc) := list_q K14_ok Try.func39 rfl rfl (no_loops rfl) fun cas r hb hk h => by
  unfold g_rcc at h
  split at h
  · rename_i t w s
    cases h
    refine ⟨rfl, ?_⟩
    show (evV K14 noL _ [.agg ⟨[.int .i64 t, .int .i64 w, .string s]⟩] []).sat _
    rw [run_rcc]
    exact sat_tst (fun h0 => sat_tst (fun h1 => leaf_v (by simp only [x_rcc, h0, h1, cond_true])) (fun h1 => leaf_v (by simp only [x_rcc, h0, h1, cond_true, cond_false]))) (fun h0 => leaf_v (by simp only [x_rcc, h0, cond_false]))
  · cases h
theorem run_wchk (k : Int) (op : Int) (n : Int) (t : Int) (w : Int) (s : ByteArray) : evV K14 noL Try.f59 [.agg ⟨[.int .i64 k, .int .i64 op, .int .i64 n, .int .i64 t, .int .i64 w, .string s]⟩] [] = tst (!x_wkind k) (Out.done AE.ret { slots := [some (Value.int IntKind.i64 (7 : Int))], heap := [] }) (tst (decide (op < (0 : Int))) (Out.done AE.ret { slots := [some (Value.int IntKind.i64 (3 : Int))], heap := [] }) (tst (decide (op ≥ (31 : Int))) (Out.done AE.ret { slots := [some (Value.int IntKind.i64 (3 : Int))], heap := [] }) (tst (decide (n < (0 : Int))) (Out.done AE.ret { slots := [some (Value.int IntKind.i64 (3 : Int))], heap := [] }) (tst (decide (n ≥ (12 : Int))) (Out.done AE.ret { slots := [some (Value.int IntKind.i64 (3 : Int))], heap := [] }) (tst (cck ((t, w), s) != (0 : Int)) (Out.done AE.ret { slots := [some (Value.int IntKind.i64 (cck ((t, w), s)))], heap := [] }) (tst (!x_wcopy k) (tst (bif false then decide (t = (0 : Int) ∧ w = (0 : Int) ∧ s = { data := #[] }) else !decide (t = (0 : Int) ∧ w = (0 : Int) ∧ s = { data := #[] })) (Out.done AE.ret { slots := [some (Value.int IntKind.i64 (1 : Int))], heap := [] }) (Out.done AE.ret { slots := [some (Value.int IntKind.i64 (0 : Int))], heap := [] })) (Out.done AE.ret { slots := [some (Value.int IntKind.i64 (0 : Int))], heap := [] }))))))) := by kernel_rfl
def x_wchk (k : Int) (op : Int) (n : Int) (t : Int) (w : Int) (s : ByteArray) : Int := (bif !x_wkind k then (7 : Int) else (bif decide (op < (0 : Int)) then (3 : Int) else (bif decide (op ≥ (31 : Int)) then (3 : Int) else (bif decide (n < (0 : Int)) then (3 : Int) else (bif decide (n ≥ (12 : Int)) then (3 : Int) else (bif cck ((t, w), s) != (0 : Int) then (cck ((t, w), s)) else (bif !x_wcopy k then (bif bif false then decide (t = (0 : Int) ∧ w = (0 : Int) ∧ s = { data := #[] }) else !decide (t = (0 : Int) ∧ w = (0 : Int) ∧ s = { data := #[] }) then (1 : Int) else (0 : Int)) else (0 : Int))))))))
def g_wchk : List CA → Option Value
  | [.val (.agg ⟨[.int .i64 k, .int .i64 op, .int .i64 n, .int .i64 t, .int .i64 w, .string s]⟩)] => some (.int .i64 (x_wchk k op n t w s))
  | _ => none
theorem q_wchk : QOk K14.P 59 (listC [.one .val] g_wchk) := list_q K14_ok Try.func59 rfl rfl (no_loops rfl) fun cas r hb hk h => by
  unfold g_wchk at h
  split at h
  · rename_i k op n t w s
    cases h
    refine ⟨rfl, ?_⟩
    show (evV K14 noL _ [.agg ⟨[.int .i64 k, .int .i64 op, .int .i64 n, .int .i64 t, .int .i64 w, .string s]⟩] []).sat _
    rw [run_wchk]
    exact sat_tst (fun h0 => leaf_v (by simp only [x_wchk, h0, cond_true])) (fun h0 => sat_tst (fun h1 => leaf_v (by simp only [x_wchk, h0, h1, cond_true, cond_false])) (fun h1 => sat_tst (fun h2 => leaf_v (by simp only [x_wchk, h0, h1, h2, cond_true, cond_false])) (fun h2 => sat_tst (fun h3 => leaf_v (by simp only [x_wchk, h0, h1, h2, h3, cond_true, cond_false])) (fun h3 => sat_tst (fun h4 => leaf_v (by simp only [x_wchk, h0, h1, h2, h3, h4, cond_true, cond_false])) (fun h4 => sat_tst (fun h5 => leaf_v (by simp only [x_wchk, h0, h1, h2, h3, h4, h5, cond_true, cond_false])) (fun h5 => sat_tst (fun h6 => sat_tst (fun h7 => leaf_v (by simp only [x_wchk, h0, h1, h2, h3, h4, h5, h6, h7, cond_true, cond_false])) (fun h7 => leaf_v (by simp only [x_wchk, h0, h1, h2, h3, h4, h5, h6, h7, cond_true, cond_false]))) (fun h6 => leaf_v (by simp only [x_wchk, h0, h1, h2, h3, h4, h5, h6, cond_false]))))))))
  · cases h
theorem run_achk (m : Nat) (g : Nat → List Value) (need : Int) (op : Int) (k : Int) (p : Int) (d : ByteArray) (t : Int) (w : Int) (s : ByteArray) (hd : Int) : evV K14 noL Try.f57 [.agg ⟨[.slice (some ⟨0, 0, some 0⟩) m m, .int .i64 need]⟩, .agg ⟨[.int .i64 op, .int .i64 k, .int .i64 p, .string d, .int .i64 t, .int .i64 w, .string s, .int .u64 hd]⟩] [.recs wtK m g] = Out.ask (m ≤ m ∧ m ≤ (140737488355328 : Nat)) (tst (qE (wsOf m fun j => g j) need != (0 : Int)) (Out.done AE.ret { slots := [some (Value.int IntKind.i64 (qE (wsOf m fun j => g j) need))], heap := [] }) (tst (decide (op < (0 : Int))) (Out.done AE.ret { slots := [some (Value.int IntKind.i64 (3 : Int))], heap := [] }) (tst (decide (op ≥ (31 : Int))) (Out.done AE.ret { slots := [some (Value.int IntKind.i64 (3 : Int))], heap := [] }) (tst (!x_akind k) (Out.done AE.ret { slots := [some (Value.int IntKind.i64 (7 : Int))], heap := [] }) (tst (!x_aphase p) (Out.done AE.ret { slots := [some (Value.int IntKind.i64 (7 : Int))], heap := [] }) (tst (decide ((↑(ByteArray.size d) : Int) > (64 : Int))) (Out.done AE.ret { slots := [some (Value.int IntKind.i64 (2 : Int))], heap := [] }) (tst (k == (1 : Int)) (tst (!ByteArray.toList d == []) (Out.done AE.ret { slots := [some (Value.int IntKind.i64 (1 : Int))], heap := [] }) (tst (cck ((t, w), s) != (0 : Int)) (Out.done AE.ret { slots := [some (Value.int IntKind.i64 (cck ((t, w), s)))], heap := [] }) (Out.ask ((0 : Int) ≤ (↑m : Int)) (tst (shrV IntKind.u64 hd (↑m : Int) != (0 : Int)) (Out.done AE.ret { slots := [some (Value.int IntKind.i64 (3 : Int))], heap := [] }) (Out.done AE.ret { slots := [some (Value.int IntKind.i64 (0 : Int))], heap := [] }))))) (tst (cck ((t, w), s) != (0 : Int)) (Out.done AE.ret { slots := [some (Value.int IntKind.i64 (cck ((t, w), s)))], heap := [] }) (Out.ask ((0 : Int) ≤ (↑m : Int)) (tst (shrV IntKind.u64 hd (↑m : Int) != (0 : Int)) (Out.done AE.ret { slots := [some (Value.int IntKind.i64 (3 : Int))], heap := [] }) (Out.done AE.ret { slots := [some (Value.int IntKind.i64 (0 : Int))], heap := [] }))))))))))) := by kernel_rfl
def x_achk (m : Nat) (g : Nat → List Value) (need : Int) (op : Int) (k : Int) (p : Int) (d : ByteArray) (t : Int) (w : Int) (s : ByteArray) (hd : Int) : Int := (bif qE (wsOf m fun j => g j) need != (0 : Int) then (qE (wsOf m fun j => g j) need) else (bif decide (op < (0 : Int)) then (3 : Int) else (bif decide (op ≥ (31 : Int)) then (3 : Int) else (bif !x_akind k then (7 : Int) else (bif !x_aphase p then (7 : Int) else (bif decide ((↑(ByteArray.size d) : Int) > (64 : Int)) then (2 : Int) else (bif k == (1 : Int) then (bif !ByteArray.toList d == [] then (1 : Int) else (bif cck ((t, w), s) != (0 : Int) then (cck ((t, w), s)) else (bif shrV IntKind.u64 hd (↑m : Int) != (0 : Int) then (3 : Int) else (0 : Int)))) else (bif cck ((t, w), s) != (0 : Int) then (cck ((t, w), s)) else (bif shrV IntKind.u64 hd (↑m : Int) != (0 : Int) then (3 : Int) else (0 : Int))))))))))
def g_achk : List CA → Option Value
  | [.rows _ m g, .val (.int .i64 need), .val (.agg ⟨[.int .i64 op, .int .i64 k, .int .i64 p, .string d, .int .i64 t, .int .i64 w, .string s, .int .u64 hd]⟩)] => some (.int .i64 (x_achk m g need op k p d t w s hd))
  | _ => none
theorem q_achk : QOk K14.P 57 (listC [.agg [.rows wtK, .val], .one .val] g_achk) := list_q K14_ok Try.func57 rfl rfl (no_loops rfl) fun cas r hb hk h => by
  unfold g_achk at h
  split at h
  · rename_i sh0 m g need op k p d t w s hd
    have e0 := kind_rows (i := 0) hk rfl rfl
    have hbm := bnd_rows (i := 0) hb rfl
    subst e0
    cases h
    refine ⟨rfl, ?_⟩
    show (evV K14 noL _ [.agg ⟨[.slice (some ⟨0, 0, some 0⟩) m m, .int .i64 need]⟩, .agg ⟨[.int .i64 op, .int .i64 k, .int .i64 p, .string d, .int .i64 t, .int .i64 w, .string s, .int .u64 hd]⟩] [.recs wtK m g]).sat _
    rw [run_achk]
    exact sat_ask (by first | omega | exact ⟨Nat.le_refl _, by assumption⟩ | exact ⟨rfl, rfl⟩ | simp_all) (sat_tst (fun h0 => leaf_v (by simp only [x_achk, h0, cond_true])) (fun h0 => sat_tst (fun h1 => leaf_v (by simp only [x_achk, h0, h1, cond_true, cond_false])) (fun h1 => sat_tst (fun h2 => leaf_v (by simp only [x_achk, h0, h1, h2, cond_true, cond_false])) (fun h2 => sat_tst (fun h3 => leaf_v (by simp only [x_achk, h0, h1, h2, h3, cond_true, cond_false])) (fun h3 => sat_tst (fun h4 => leaf_v (by simp only [x_achk, h0, h1, h2, h3, h4, cond_true, cond_false])) (fun h4 => sat_tst (fun h5 => leaf_v (by simp only [x_achk, h0, h1, h2, h3, h4, h5, cond_true, cond_false])) (fun h5 => sat_tst (fun h6 => sat_tst (fun h7 => leaf_v (by simp only [x_achk, h0, h1, h2, h3, h4, h5, h6, h7, cond_true, cond_false])) (fun h7 => sat_tst (fun h8 => leaf_v (by simp only [x_achk, h0, h1, h2, h3, h4, h5, h6, h7, h8, cond_true, cond_false])) (fun h8 => sat_ask (by first | omega | exact ⟨Nat.le_refl _, by assumption⟩ | exact ⟨rfl, rfl⟩ | simp_all) (sat_tst (fun h9 => leaf_v (by simp only [x_achk, h0, h1, h2, h3, h4, h5, h6, h7, h8, h9, cond_true, cond_false])) (fun h9 => leaf_v (by simp only [x_achk, h0, h1, h2, h3, h4, h5, h6, h7, h8, h9, cond_true, cond_false])))))) (fun h6 => sat_tst (fun h7 => leaf_v (by simp only [x_achk, h0, h1, h2, h3, h4, h5, h6, h7, cond_true, cond_false])) (fun h7 => sat_ask (by first | omega | exact ⟨Nat.le_refl _, by assumption⟩ | exact ⟨rfl, rfl⟩ | simp_all) (sat_tst (fun h8 => leaf_v (by simp only [x_achk, h0, h1, h2, h3, h4, h5, h6, h7, h8, cond_true, cond_false])) (fun h8 => leaf_v (by simp only [x_achk, h0, h1, h2, h3, h4, h5, h6, h7, h8, cond_false]))))))))))))
  · cases h
-- @end
-- @file md.chain
noncomputable def K15 : Kn := (((K14.addQ 31 (listC [.one .val, .one .val, .one .val] g_block)).addQ 39 (listC [.one .val] g_rcc)).addQ 59 (listC [.one .val] g_wchk)).addQ 57 (listC [.agg [.rows wtK, .val], .one .val] g_achk)
theorem K15_ok : K15.Ok := (((K14_ok.addQ q_block).addQ q_rcc).addQ q_wchk).addQ q_achk
-- @end
def wantsM : List MapEntry := [⟨.int .i64 1, .int .i64 2, 0⟩, ⟨.int .i64 2, .int .i64 4, 1⟩]
theorem run_wants : evR K15 noL Try.f96 [] [] [.one .val] [.mp wantsM 2] = .ask (wantsM = wantsM ∧ 2 = 2) (.done .ret ⟨[], []⟩) := by kernel_rfl
def g_wants : List CA → Option (List RC)
  | [] => some [.mp wantsM 2]
  | _ => none
theorem f_wants : FOk K15.P 96 (listG [] [.one .val] g_wants) := list_g K15_ok Try.func96 rfl rfl (no_loops rfl) fun cas rs _hb _hk h => by
  unfold g_wants at h
  split at h
  · cases h
    show (evR K15 noL _ [] [] [.one .val] _).sat _
    rw [run_wants]
    exact sat_ask ⟨rfl, rfl⟩ sat_end
  · cases h
noncomputable def K16 : Kn := K15.addF 96 (listG [] [.one .val] g_wants)
theorem K16_ok : K16.Ok := K15_ok.addF f_wants
abbrev msK : List LK := [.kInt .i64, .kInt .i64, .kInt .i64, .kInt .i64, .kInt .i64, .kStr]
def litR (L : List (List Value)) : Nat → List Value := fun j => (nthL L j).getD []
def mgC (k o n t w : Int) (s : ByteArray) : List Value := [.int .i64 k, .int .i64 o, .int .i64 n, .int .i64 t, .int .i64 w, .string s]
-- @file me.out
theorem run_wait (op : Int) (k : Int) (p : Int) (d : ByteArray) (t : Int) (w : Int) (s : ByteArray) (hd : Int) (m : Nat) (g : Nat → List Value) (need : Int) (mk : Int) (mo : Int) (n : Int) (x : Int) (y : Int) (z : ByteArray) : evV K16 noL Try.f92 [.agg ⟨[.int .i64 op, .int .i64 k, .int .i64 p, .string d, .int .i64 t, .int .i64 w, .string s, .int .u64 hd, .slice (some ⟨0, 0, some 0⟩) m m, .int .i64 need]⟩, .agg ⟨[.int .i64 mk, .int .i64 mo, .int .i64 n, .int .i64 x, .int .i64 y, .string z]⟩] [.recs wtK m g] = tst (p == (1 : Int)) (tst (mk == (2 : Int)) (tst (mo == op) (tst (decide (n < (↑m : Int))) (Out.ask ((0 : Int) ≤ n) (Out.done AE.ret { slots := [some (Value.bool (IntKind.wrap IntKind.u64 (↑(BitVec.toNat (BitVec.ofInt (IntKind.bits IntKind.u64) (shrV IntKind.u64 hd n) &&& BitVec.ofInt (IntKind.bits IntKind.u64) (1 : Int))) : Int) == (0 : Int)))], heap := [] })) (Out.done AE.ret { slots := [some (Value.bool false)], heap := [] })) (Out.done AE.ret { slots := [some (Value.bool false)], heap := [] })) (Out.done AE.ret { slots := [some (Value.bool false)], heap := [] })) (tst (p == (2 : Int)) (tst (mk == (4 : Int)) (tst (mo == op) (tst (decide (n < (↑m : Int))) (Out.ask ((0 : Int) ≤ n) (Out.done AE.ret { slots := [some (Value.bool (IntKind.wrap IntKind.u64 (↑(BitVec.toNat (BitVec.ofInt (IntKind.bits IntKind.u64) (shrV IntKind.u64 hd n) &&& BitVec.ofInt (IntKind.bits IntKind.u64) (1 : Int))) : Int) == (0 : Int)))], heap := [] })) (Out.done AE.ret { slots := [some (Value.bool false)], heap := [] })) (Out.done AE.ret { slots := [some (Value.bool false)], heap := [] })) (Out.done AE.ret { slots := [some (Value.bool false)], heap := [] })) (Out.done AE.ret { slots := [some (Value.bool false)], heap := [] })) := by kernel_rfl
def x_wait (op : Int) (p : Int) (hd : Int) (m : Nat) (mk : Int) (mo : Int) (n : Int) : Bool := (bif p == (1 : Int) then (bif mk == (2 : Int) then (bif mo == op then (bif decide (n < (↑m : Int)) then (IntKind.wrap IntKind.u64 (↑(BitVec.toNat (BitVec.ofInt (IntKind.bits IntKind.u64) (shrV IntKind.u64 hd n) &&& BitVec.ofInt (IntKind.bits IntKind.u64) (1 : Int))) : Int) == (0 : Int)) else (false)) else (false)) else (false)) else (bif p == (2 : Int) then (bif mk == (4 : Int) then (bif mo == op then (bif decide (n < (↑m : Int)) then (IntKind.wrap IntKind.u64 (↑(BitVec.toNat (BitVec.ofInt (IntKind.bits IntKind.u64) (shrV IntKind.u64 hd n) &&& BitVec.ofInt (IntKind.bits IntKind.u64) (1 : Int))) : Int) == (0 : Int)) else (false)) else (false)) else (false)) else (false)))
def g_wait : List CA → Option Value
  | [.val (.int .i64 op), .val (.int .i64 _), .val (.int .i64 p), .val (.string _), .val (.int .i64 _), .val (.int .i64 _), .val (.string _), .val (.int .u64 hd), .rows _ m _, .val (.int .i64 _), .val (.agg ⟨[.int .i64 mk, .int .i64 mo, .int .i64 n, .int .i64 _, .int .i64 _, .string _]⟩)] => some (.bool (x_wait op p hd m mk mo n))
  | _ => none
def a_wait (l : List CA) : Prop :=
  match nthL l 10 with
  | some (.val (.agg ⟨[_, _, .int _ n, _, _, _]⟩)) => 0 ≤ n
  | _ => False
theorem q_wait : QOk K16.P 92 (listA [.agg [.val, .val, .val, .val, .val, .val, .val, .val, .rows wtK, .val], .one .val] a_wait g_wait) := list_qA K16_ok Try.func92 rfl rfl (no_loops rfl) fun cas r hb hk ha h => by
  unfold g_wait at h
  split at h
  · rename_i op k p d t w s hd sh0 m g need mk mo n x y z
    have e0 := kind_rows (i := 8) hk rfl rfl
    have hbm := bnd_rows (i := 8) hb rfl
    subst e0
    have ha : 0 ≤ n := ha
    cases h
    refine ⟨rfl, ?_⟩
    show (evV K16 noL _ [.agg ⟨[.int .i64 op, .int .i64 k, .int .i64 p, .string d, .int .i64 t, .int .i64 w, .string s, .int .u64 hd, .slice (some ⟨0, 0, some 0⟩) m m, .int .i64 need]⟩, .agg ⟨[.int .i64 mk, .int .i64 mo, .int .i64 n, .int .i64 x, .int .i64 y, .string z]⟩] [.recs wtK m g]).sat _
    rw [run_wait]
    exact sat_tst (fun h0 => sat_tst (fun h1 => sat_tst (fun h2 => sat_tst (fun h3 => sat_ask (by first | omega | exact ⟨Nat.le_refl _, by assumption⟩ | exact ⟨rfl, rfl⟩ | simp_all) (leaf_v (by simp only [x_wait, h0, h1, h2, h3, cond_true]))) (fun h3 => leaf_v (by simp only [x_wait, h0, h1, h2, h3, cond_true, cond_false]))) (fun h2 => leaf_v (by simp only [x_wait, h0, h1, h2, cond_true, cond_false]))) (fun h1 => leaf_v (by simp only [x_wait, h0, h1, cond_true, cond_false]))) (fun h0 => sat_tst (fun h1 => sat_tst (fun h2 => sat_tst (fun h3 => sat_tst (fun h4 => sat_ask (by first | omega | exact ⟨Nat.le_refl _, by assumption⟩ | exact ⟨rfl, rfl⟩ | simp_all) (leaf_v (by simp only [x_wait, h0, h1, h2, h3, h4, cond_true, cond_false]))) (fun h4 => leaf_v (by simp only [x_wait, h0, h1, h2, h3, h4, cond_true, cond_false]))) (fun h3 => leaf_v (by simp only [x_wait, h0, h1, h2, h3, cond_true, cond_false]))) (fun h2 => leaf_v (by simp only [x_wait, h0, h1, h2, cond_true, cond_false]))) (fun h1 => leaf_v (by simp only [x_wait, h0, h1, cond_false])))
  · cases h
theorem run_rmchk (k : Int) (op : Int) (n : Int) (t : Int) (w : Int) (s : ByteArray) : evV K16 noL Try.f41 [.agg ⟨[.int .i64 k, .int .i64 op, .int .i64 n, .int .i64 t, .int .i64 w, .string s]⟩] [] = tst (decide (k < (1 : Int))) (Out.done AE.ret { slots := [some (Value.int IntKind.i64 (7 : Int))], heap := [] }) (tst (decide (k > (4 : Int))) (Out.done AE.ret { slots := [some (Value.int IntKind.i64 (7 : Int))], heap := [] }) (tst (decide (op < (0 : Int))) (Out.done AE.ret { slots := [some (Value.int IntKind.i64 (3 : Int))], heap := [] }) (tst (decide (op > (30 : Int))) (Out.done AE.ret { slots := [some (Value.int IntKind.i64 (3 : Int))], heap := [] }) (tst (decide (n < (0 : Int))) (Out.done AE.ret { slots := [some (Value.int IntKind.i64 (3 : Int))], heap := [] }) (tst (decide (n > (11 : Int))) (Out.done AE.ret { slots := [some (Value.int IntKind.i64 (3 : Int))], heap := [] }) (tst (x_rcc t w s != (0 : Int)) (Out.done AE.ret { slots := [some (Value.int IntKind.i64 (x_rcc t w s))], heap := [] }) (tst (!x_rhas k) (tst (bif false then decide (t = (0 : Int) ∧ w = (0 : Int) ∧ s = { data := #[] }) else !decide (t = (0 : Int) ∧ w = (0 : Int) ∧ s = { data := #[] })) (Out.done AE.ret { slots := [some (Value.int IntKind.i64 (1 : Int))], heap := [] }) (Out.done AE.ret { slots := [some (Value.int IntKind.i64 (0 : Int))], heap := [] })) (Out.done AE.ret { slots := [some (Value.int IntKind.i64 (0 : Int))], heap := [] })))))))) := by kernel_rfl
def x_rmchk (k : Int) (op : Int) (n : Int) (t : Int) (w : Int) (s : ByteArray) : Int := (bif decide (k < (1 : Int)) then (7 : Int) else (bif decide (k > (4 : Int)) then (7 : Int) else (bif decide (op < (0 : Int)) then (3 : Int) else (bif decide (op > (30 : Int)) then (3 : Int) else (bif decide (n < (0 : Int)) then (3 : Int) else (bif decide (n > (11 : Int)) then (3 : Int) else (bif x_rcc t w s != (0 : Int) then (x_rcc t w s) else (bif !x_rhas k then (bif bif false then decide (t = (0 : Int) ∧ w = (0 : Int) ∧ s = { data := #[] }) else !decide (t = (0 : Int) ∧ w = (0 : Int) ∧ s = { data := #[] }) then (1 : Int) else (0 : Int)) else (0 : Int)))))))))
def g_rmchk : List CA → Option Value
  | [.val (.agg ⟨[.int .i64 k, .int .i64 op, .int .i64 n, .int .i64 t, .int .i64 w, .string s]⟩)] => some (.int .i64 (x_rmchk k op n t w s))
  | _ => none
theorem q_rmchk : QOk K16.P 41 (listC [.one .val] g_rmchk) := list_q K16_ok Try.func41 rfl rfl (no_loops rfl) fun cas r hb hk h => by
  unfold g_rmchk at h
  split at h
  · rename_i k op n t w s
    cases h
    refine ⟨rfl, ?_⟩
    show (evV K16 noL _ [.agg ⟨[.int .i64 k, .int .i64 op, .int .i64 n, .int .i64 t, .int .i64 w, .string s]⟩] []).sat _
    rw [run_rmchk]
    exact sat_tst (fun h0 => leaf_v (by simp only [x_rmchk, h0, cond_true])) (fun h0 => sat_tst (fun h1 => leaf_v (by simp only [x_rmchk, h0, h1, cond_true, cond_false])) (fun h1 => sat_tst (fun h2 => leaf_v (by simp only [x_rmchk, h0, h1, h2, cond_true, cond_false])) (fun h2 => sat_tst (fun h3 => leaf_v (by simp only [x_rmchk, h0, h1, h2, h3, cond_true, cond_false])) (fun h3 => sat_tst (fun h4 => leaf_v (by simp only [x_rmchk, h0, h1, h2, h3, h4, cond_true, cond_false])) (fun h4 => sat_tst (fun h5 => leaf_v (by simp only [x_rmchk, h0, h1, h2, h3, h4, h5, cond_true, cond_false])) (fun h5 => sat_tst (fun h6 => leaf_v (by simp only [x_rmchk, h0, h1, h2, h3, h4, h5, h6, cond_true, cond_false])) (fun h6 => sat_tst (fun h7 => sat_tst (fun h8 => leaf_v (by simp only [x_rmchk, h0, h1, h2, h3, h4, h5, h6, h7, h8, cond_true, cond_false])) (fun h8 => leaf_v (by simp only [x_rmchk, h0, h1, h2, h3, h4, h5, h6, h7, h8, cond_true, cond_false]))) (fun h7 => leaf_v (by simp only [x_rmchk, h0, h1, h2, h3, h4, h5, h6, h7, cond_false])))))))))
  · cases h
theorem run_rstore (t : Int) (w : Int) (s : ByteArray) (x : Int) (y : Int) (z : ByteArray) : evV K16 noL Try.f69 [.agg ⟨[.int .i64 t, .int .i64 w, .string s]⟩, .agg ⟨[.int .i64 x, .int .i64 y, .string z]⟩] [] = tst (x_rcc t w s == (0 : Int)) (tst (x_rcc x y z != (0 : Int)) (Out.done AE.ret { slots := [some (Value.tuple { toList := [Value.agg { toList := [Value.int IntKind.i64 (0 : Int), Value.int IntKind.i64 (0 : Int), Value.string { data := { toList := [] } }] }, Value.int IntKind.i64 (x_rcc x y z)] })], heap := [] }) (tst (x_rsl t w x y) (Out.done AE.ret { slots := [some (Value.tuple { toList := [Value.agg { toList := [Value.int IntKind.i64 x, Value.int IntKind.i64 y, Value.string z] }, Value.int IntKind.i64 (0 : Int)] })], heap := [] }) (Out.done AE.ret { slots := [some (Value.tuple { toList := [Value.agg { toList := [Value.int IntKind.i64 t, Value.int IntKind.i64 w, Value.string s] }, Value.int IntKind.i64 (0 : Int)] })], heap := [] }))) (tst (x_rcc t w s != (0 : Int)) (Out.done AE.ret { slots := [some (Value.tuple { toList := [Value.agg { toList := [Value.int IntKind.i64 (0 : Int), Value.int IntKind.i64 (0 : Int), Value.string { data := { toList := [] } }] }, Value.int IntKind.i64 (x_rcc t w s)] })], heap := [] }) (tst (x_rsl t w x y) (Out.done AE.ret { slots := [some (Value.tuple { toList := [Value.agg { toList := [Value.int IntKind.i64 x, Value.int IntKind.i64 y, Value.string z] }, Value.int IntKind.i64 (0 : Int)] })], heap := [] }) (Out.done AE.ret { slots := [some (Value.tuple { toList := [Value.agg { toList := [Value.int IntKind.i64 t, Value.int IntKind.i64 w, Value.string s] }, Value.int IntKind.i64 (0 : Int)] })], heap := [] }))) := by kernel_rfl
def x0_rstore (t : Int) (w : Int) (s : ByteArray) (x : Int) (y : Int) (z : ByteArray) : Int := (bif x_rcc t w s == (0 : Int) then (bif x_rcc x y z != (0 : Int) then (0 : Int) else (bif x_rsl t w x y then (x) else (t))) else (bif x_rcc t w s != (0 : Int) then (0 : Int) else (bif x_rsl t w x y then (x) else (t))))
def x1_rstore (t : Int) (w : Int) (s : ByteArray) (x : Int) (y : Int) (z : ByteArray) : Int := (bif x_rcc t w s == (0 : Int) then (bif x_rcc x y z != (0 : Int) then (0 : Int) else (bif x_rsl t w x y then (y) else (w))) else (bif x_rcc t w s != (0 : Int) then (0 : Int) else (bif x_rsl t w x y then (y) else (w))))
def x2_rstore (t : Int) (w : Int) (s : ByteArray) (x : Int) (y : Int) (z : ByteArray) : ByteArray := (bif x_rcc t w s == (0 : Int) then (bif x_rcc x y z != (0 : Int) then ({ data := { toList := [] } }) else (bif x_rsl t w x y then (z) else (s))) else (bif x_rcc t w s != (0 : Int) then ({ data := { toList := [] } }) else (bif x_rsl t w x y then (z) else (s))))
def x3_rstore (t : Int) (w : Int) (s : ByteArray) (x : Int) (y : Int) (z : ByteArray) : Int := (bif x_rcc t w s == (0 : Int) then (bif x_rcc x y z != (0 : Int) then (x_rcc x y z) else (bif x_rsl t w x y then (0 : Int) else (0 : Int))) else (bif x_rcc t w s != (0 : Int) then (x_rcc t w s) else (bif x_rsl t w x y then (0 : Int) else (0 : Int))))
def g_rstore : List CA → Option Value
  | [.val (.agg ⟨[.int .i64 t, .int .i64 w, .string s]⟩), .val (.agg ⟨[.int .i64 x, .int .i64 y, .string z]⟩)] => some (.tuple ⟨[.agg ⟨[.int .i64 (x0_rstore t w s x y z), .int .i64 (x1_rstore t w s x y z), .string (x2_rstore t w s x y z)]⟩, .int .i64 (x3_rstore t w s x y z)]⟩)
  | _ => none
theorem q_rstore : QOk K16.P 69 (listC [.one .val, .one .val] g_rstore) := list_q K16_ok Try.func69 rfl rfl (no_loops rfl) fun cas r hb hk h => by
  unfold g_rstore at h
  split at h
  · rename_i t w s x y z
    cases h
    refine ⟨rfl, ?_⟩
    show (evV K16 noL _ [.agg ⟨[.int .i64 t, .int .i64 w, .string s]⟩, .agg ⟨[.int .i64 x, .int .i64 y, .string z]⟩] []).sat _
    rw [run_rstore]
    exact sat_tst (fun h0 => sat_tst (fun h1 => leaf_v (by simp only [x0_rstore, x1_rstore, x2_rstore, x3_rstore, h0, h1, cond_true])) (fun h1 => sat_tst (fun h2 => leaf_v (by simp only [x0_rstore, x1_rstore, x2_rstore, x3_rstore, h0, h1, h2, cond_true, cond_false])) (fun h2 => leaf_v (by simp only [x0_rstore, x1_rstore, x2_rstore, x3_rstore, h0, h1, h2, cond_true, cond_false])))) (fun h0 => sat_tst (fun h1 => leaf_v (by simp only [x0_rstore, x1_rstore, x2_rstore, x3_rstore, h0, h1, cond_true, cond_false])) (fun h1 => sat_tst (fun h2 => leaf_v (by simp only [x0_rstore, x1_rstore, x2_rstore, x3_rstore, h0, h1, h2, cond_true, cond_false])) (fun h2 => leaf_v (by simp only [x0_rstore, x1_rstore, x2_rstore, x3_rstore, h0, h1, h2, cond_false]))))
  · cases h
def x0_serve (t : Int) (w : Int) (s : ByteArray) (mk : Int) (mo : Int) (n : Int) (x : Int) (y : Int) (z : ByteArray) : Int := (bif cck ((t, w), s) != (0 : Int) then (0 : Int) else (bif x_wchk mk mo n x y z != (0 : Int) then (0 : Int) else (bif mk == (1 : Int) then (t) else (bif mk == (3 : Int) then (x0_store t w s x y z) else (t)))))
def x1_serve (t : Int) (w : Int) (s : ByteArray) (mk : Int) (mo : Int) (n : Int) (x : Int) (y : Int) (z : ByteArray) : Int := (bif cck ((t, w), s) != (0 : Int) then (0 : Int) else (bif x_wchk mk mo n x y z != (0 : Int) then (0 : Int) else (bif mk == (1 : Int) then (w) else (bif mk == (3 : Int) then (x1_store t w s x y z) else (w)))))
def x2_serve (t : Int) (w : Int) (s : ByteArray) (mk : Int) (mo : Int) (n : Int) (x : Int) (y : Int) (z : ByteArray) : ByteArray := (bif cck ((t, w), s) != (0 : Int) then ({ data := { toList := [] } }) else (bif x_wchk mk mo n x y z != (0 : Int) then ({ data := { toList := [] } }) else (bif mk == (1 : Int) then (s) else (bif mk == (3 : Int) then (x2_store t w s x y z) else (s)))))
def n3_serve (t : Int) (w : Int) (s : ByteArray) (mk : Int) (mo : Int) (n : Int) (x : Int) (y : Int) (z : ByteArray) : Nat := (bif cck ((t, w), s) != (0 : Int) then (0) else (bif x_wchk mk mo n x y z != (0 : Int) then (0) else (bif mk == (1 : Int) then (1 : Nat) else (bif mk == (3 : Int) then (1 : Nat) else (0)))))
def g3_serve (t : Int) (w : Int) (s : ByteArray) (mk : Int) (mo : Int) (n : Int) (x : Int) (y : Int) (z : ByteArray) : Nat → List Value := (bif cck ((t, w), s) != (0 : Int) then (fun _ => []) else (bif x_wchk mk mo n x y z != (0 : Int) then (fun _ => []) else (bif mk == (1 : Int) then (litR [mgC 2 mo n t w s]) else (bif mk == (3 : Int) then (litR [mgC 4 mo n 0 0 ⟨#[]⟩]) else (fun _ => [])))))
def x4_serve (t : Int) (w : Int) (s : ByteArray) (mk : Int) (mo : Int) (n : Int) (x : Int) (y : Int) (z : ByteArray) : Int := (bif cck ((t, w), s) != (0 : Int) then (cck ((t, w), s)) else (bif x_wchk mk mo n x y z != (0 : Int) then (x_wchk mk mo n x y z) else (bif mk == (1 : Int) then (0 : Int) else (bif mk == (3 : Int) then (0 : Int) else (0 : Int)))))
theorem run_serve (t : Int) (w : Int) (s : ByteArray) (mk : Int) (mo : Int) (n : Int) (x : Int) (y : Int) (z : ByteArray) : evR K16 noL Try.f88 [.agg ⟨[.int .i64 t, .int .i64 w, .string s]⟩, .agg ⟨[.int .i64 mk, .int .i64 mo, .int .i64 n, .int .i64 x, .int .i64 y, .string z]⟩] [] [.agg [.val, .val, .val], .one .val, .one .val] [.val (.int .i64 (x0_serve t w s mk mo n x y z)), .val (.int .i64 (x1_serve t w s mk mo n x y z)), .val (.string (x2_serve t w s mk mo n x y z)), .rows 68 [LK.kInt IntKind.i64, LK.kInt IntKind.i64, LK.kInt IntKind.i64, LK.kInt IntKind.i64, LK.kInt IntKind.i64, LK.kStr] (n3_serve t w s mk mo n x y z) (g3_serve t w s mk mo n x y z), .val (.int .i64 (x4_serve t w s mk mo n x y z))] = tst (cck ((t, w), s) != (0 : Int)) (Out.ask ((Value.int IntKind.i64 (0 : Int) : Value) = .int .i64 (x0_serve t w s mk mo n x y z)) (Out.ask ((Value.int IntKind.i64 (0 : Int) : Value) = .int .i64 (x1_serve t w s mk mo n x y z)) (Out.ask ((Value.string { data := { toList := [] } } : Value) = .string (x2_serve t w s mk mo n x y z)) (Out.ask ((n3_serve t w s mk mo n x y z : Nat) = 0) (Out.ask ((Value.int IntKind.i64 (cck ((t, w), s)) : Value) = .int .i64 (x4_serve t w s mk mo n x y z)) (Out.done .ret ⟨[], []⟩)))))) (tst (x_wchk mk mo n x y z != (0 : Int)) (Out.ask ((Value.int IntKind.i64 (0 : Int) : Value) = .int .i64 (x0_serve t w s mk mo n x y z)) (Out.ask ((Value.int IntKind.i64 (0 : Int) : Value) = .int .i64 (x1_serve t w s mk mo n x y z)) (Out.ask ((Value.string { data := { toList := [] } } : Value) = .string (x2_serve t w s mk mo n x y z)) (Out.ask ((n3_serve t w s mk mo n x y z : Nat) = 0) (Out.ask ((Value.int IntKind.i64 (x_wchk mk mo n x y z) : Value) = .int .i64 (x4_serve t w s mk mo n x y z)) (Out.done .ret ⟨[], []⟩)))))) (tst (mk == (1 : Int)) (Out.ask ((Value.int IntKind.i64 t : Value) = .int .i64 (x0_serve t w s mk mo n x y z)) (Out.ask ((Value.int IntKind.i64 w : Value) = .int .i64 (x1_serve t w s mk mo n x y z)) (Out.ask ((Value.string s : Value) = .string (x2_serve t w s mk mo n x y z)) (Out.ask ((1 : Nat) = n3_serve t w s mk mo n x y z ∧ (1 : Nat) ≤ (1 : Nat) ∧ ∀ j, j < n3_serve t w s mk mo n x y z → norm [LK.kInt IntKind.i64, LK.kInt IntKind.i64, LK.kInt IntKind.i64, LK.kInt IntKind.i64, LK.kInt IntKind.i64, LK.kStr] ((litR [mgC 2 mo n t w s]) j) = norm [LK.kInt IntKind.i64, LK.kInt IntKind.i64, LK.kInt IntKind.i64, LK.kInt IntKind.i64, LK.kInt IntKind.i64, LK.kStr] (g3_serve t w s mk mo n x y z j)) (Out.ask ((Value.int IntKind.i64 (0 : Int) : Value) = .int .i64 (x4_serve t w s mk mo n x y z)) (Out.done .ret ⟨[], []⟩)))))) (tst (mk == (3 : Int)) (Out.ask ((Value.int IntKind.i64 (x0_store t w s x y z) : Value) = .int .i64 (x0_serve t w s mk mo n x y z)) (Out.ask ((Value.int IntKind.i64 (x1_store t w s x y z) : Value) = .int .i64 (x1_serve t w s mk mo n x y z)) (Out.ask ((Value.string (x2_store t w s x y z) : Value) = .string (x2_serve t w s mk mo n x y z)) (Out.ask ((1 : Nat) = n3_serve t w s mk mo n x y z ∧ (1 : Nat) ≤ (1 : Nat) ∧ ∀ j, j < n3_serve t w s mk mo n x y z → norm [LK.kInt IntKind.i64, LK.kInt IntKind.i64, LK.kInt IntKind.i64, LK.kInt IntKind.i64, LK.kInt IntKind.i64, LK.kStr] ((litR [mgC 4 mo n 0 0 ⟨#[]⟩]) j) = norm [LK.kInt IntKind.i64, LK.kInt IntKind.i64, LK.kInt IntKind.i64, LK.kInt IntKind.i64, LK.kInt IntKind.i64, LK.kStr] (g3_serve t w s mk mo n x y z j)) (Out.ask ((Value.int IntKind.i64 (0 : Int) : Value) = .int .i64 (x4_serve t w s mk mo n x y z)) (Out.done .ret ⟨[], []⟩)))))) (Out.ask ((Value.int IntKind.i64 t : Value) = .int .i64 (x0_serve t w s mk mo n x y z)) (Out.ask ((Value.int IntKind.i64 w : Value) = .int .i64 (x1_serve t w s mk mo n x y z)) (Out.ask ((Value.string s : Value) = .string (x2_serve t w s mk mo n x y z)) (Out.ask ((n3_serve t w s mk mo n x y z : Nat) = 0) (Out.ask ((Value.int IntKind.i64 (0 : Int) : Value) = .int .i64 (x4_serve t w s mk mo n x y z)) (Out.done .ret ⟨[], []⟩))))))))) := by kernel_rfl
def g_serve : List CA → Option (List RC)
  | [.val (.agg ⟨[.int .i64 t, .int .i64 w, .string s]⟩), .val (.agg ⟨[.int .i64 mk, .int .i64 mo, .int .i64 n, .int .i64 x, .int .i64 y, .string z]⟩)] => some [.val (.int .i64 (x0_serve t w s mk mo n x y z)), .val (.int .i64 (x1_serve t w s mk mo n x y z)), .val (.string (x2_serve t w s mk mo n x y z)), .rows 68 [LK.kInt IntKind.i64, LK.kInt IntKind.i64, LK.kInt IntKind.i64, LK.kInt IntKind.i64, LK.kInt IntKind.i64, LK.kStr] (n3_serve t w s mk mo n x y z) (g3_serve t w s mk mo n x y z), .val (.int .i64 (x4_serve t w s mk mo n x y z))]
  | _ => none
theorem f_serve : FOk K16.P 88 (listG [.one .val, .one .val] [.agg [.val, .val, .val], .one .val, .one .val] g_serve) := list_g K16_ok Try.func88 rfl rfl (no_loops rfl) fun cas rs _hb _hk h => by
  unfold g_serve at h
  split at h
  · rename_i t w s mk mo n x y z
    cases h
    show (evR K16 noL _ [.agg ⟨[.int .i64 t, .int .i64 w, .string s]⟩, .agg ⟨[.int .i64 mk, .int .i64 mo, .int .i64 n, .int .i64 x, .int .i64 y, .string z]⟩] [] [.agg [.val, .val, .val], .one .val, .one .val] _).sat _
    rw [run_serve]
    exact sat_tst (fun h0 => sat_ask (by simp only [x0_serve, h0, cond_true]) (sat_ask (by simp only [x1_serve, h0, cond_true]) (sat_ask (by simp only [x2_serve, h0, cond_true]) (sat_ask (by simp only [n3_serve, h0, cond_true]) (sat_ask (by simp only [x4_serve, h0, cond_true]) (sat_end)))))) (fun h0 => sat_tst (fun h1 => sat_ask (by simp only [x0_serve, h0, h1, cond_true, cond_false]) (sat_ask (by simp only [x1_serve, h0, h1, cond_true, cond_false]) (sat_ask (by simp only [x2_serve, h0, h1, cond_true, cond_false]) (sat_ask (by simp only [n3_serve, h0, h1, cond_true, cond_false]) (sat_ask (by simp only [x4_serve, h0, h1, cond_true, cond_false]) (sat_end)))))) (fun h1 => sat_tst (fun h2 => sat_ask (by simp only [x0_serve, h0, h1, h2, cond_true, cond_false]) (sat_ask (by simp only [x1_serve, h0, h1, h2, cond_true, cond_false]) (sat_ask (by simp only [x2_serve, h0, h1, h2, cond_true, cond_false]) (sat_ask ⟨by simp only [n3_serve, h0, h1, h2, cond_true, cond_false], Nat.le_refl _, fun j _ => by simp only [g3_serve, h0, h1, h2, cond_true, cond_false]⟩ (sat_ask (by simp only [x4_serve, h0, h1, h2, cond_true, cond_false]) (sat_end)))))) (fun h2 => sat_tst (fun h3 => sat_ask (by simp only [x0_serve, h0, h1, h2, h3, cond_true, cond_false]) (sat_ask (by simp only [x1_serve, h0, h1, h2, h3, cond_true, cond_false]) (sat_ask (by simp only [x2_serve, h0, h1, h2, h3, cond_true, cond_false]) (sat_ask ⟨by simp only [n3_serve, h0, h1, h2, h3, cond_true, cond_false], Nat.le_refl _, fun j _ => by simp only [g3_serve, h0, h1, h2, h3, cond_true, cond_false]⟩ (sat_ask (by simp only [x4_serve, h0, h1, h2, h3, cond_true, cond_false]) (sat_end)))))) (fun h3 => sat_ask (by simp only [x0_serve, h0, h1, h2, h3, cond_false]) (sat_ask (by simp only [x1_serve, h0, h1, h2, h3, cond_false]) (sat_ask (by simp only [x2_serve, h0, h1, h2, h3, cond_false]) (sat_ask (by simp only [n3_serve, h0, h1, h2, h3, cond_false]) (sat_ask (by simp only [x4_serve, h0, h1, h2, h3, cond_false]) (sat_end)))))))))
  · cases h
-- @end
-- @file me.chain
noncomputable def K17 : Kn := (((K16.addQ 92 (listA [.agg [.val, .val, .val, .val, .val, .val, .val, .val, .rows wtK, .val], .one .val] a_wait g_wait)).addQ 41 (listC [.one .val] g_rmchk)).addQ 69 (listC [.one .val, .one .val] g_rstore)).addF 88 (listG [.one .val, .one .val] [.agg [.val, .val, .val], .one .val, .one .val] g_serve)
theorem K17_ok : K17.Ok := (((K16_ok.addQ q_wait).addQ q_rmchk).addQ q_rstore).addF f_serve
-- @end
end Go.Proofs.Ytpkckgdpdnkbeaa
