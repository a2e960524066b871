/- The greatest of stamps, by symbolic runs. -/
import Derived.Test.YtbmbnbhedalcnaaMa
namespace Go.Proofs.Ytbmbnbhedalcnaa
open Go.RowKit
-- @file mb.out
theorem run_mxB (m k T1 T2 : Nat) (g : Nat → List Value) (a b x y : Int) : ev K11 noL (bodyOf Try.f9 0) ⟨mkSlots 31 [2, 4, 13, 14, 15] [.pointer (some ⟨1, 0, none⟩), .pointer (some ⟨2, 0, none⟩), .slice (some ⟨0, 0, some 0⟩) m m, .int .i64 m, .int .i64 k], [.recs stK m g, .cells T1 [.int .i64 a, .int .i64 b], .cells T2 [.int .i64 x, .int .i64 y]]⟩ (pkG 31 keepMx 3) = tst (decide ((↑k : Int) < (↑m : Int))) (Out.ask ((0 : Int) ≤ (↑k : Int) ∧ (↑k : Int) < (↑m : Int)) (Out.ask (k < m) (tst (sck (intV (hdV (g k)), intV (hdV (tlV (g k)))) != (0 : Int)) (Out.done AE.ret { slots := [some (Value.pointer (some { block := (1 : Nat), off := (0 : Nat) })), some (Value.int IntKind.i64 (sck (intV (hdV (g k)), intV (hdV (tlV (g k))))))], heap := [AObj.recs stK m g, AObj.cells T1 [Value.int IntKind.i64 (0 : Int), Value.int IntKind.i64 (0 : Int)], AObj.cells T2 [Value.int IntKind.i64 x, Value.int IntKind.i64 y]] }) (tst (slt (x, y) (intV (hdV (g k)), intV (hdV (tlV (g k))))) (Out.done AE.normal { slots := [some (Value.pointer (some { block := (1 : Nat), off := (0 : Nat) })), some (Value.pointer (some { block := (2 : Nat), off := (0 : Nat) })), some (Value.slice (some { block := (0 : Nat), off := (0 : Nat), spot := some (0 : Nat) }) m m), some (Value.int IntKind.i64 (↑m : Int)), some (Value.int IntKind.i64 (IntKind.wrap IntKind.i64 ((↑k : Int) + (1 : Int))))], heap := [AObj.recs stK m g, AObj.cells T1 [Value.int IntKind.i64 a, Value.int IntKind.i64 b], AObj.cells T2 [Value.int IntKind.i64 (intV (hdV (g k))), Value.int IntKind.i64 (intV (hdV (tlV (g k))))]] }) (Out.done AE.normal { slots := [some (Value.pointer (some { block := (1 : Nat), off := (0 : Nat) })), some (Value.pointer (some { block := (2 : Nat), off := (0 : Nat) })), some (Value.slice (some { block := (0 : Nat), off := (0 : Nat), spot := some (0 : Nat) }) m m), some (Value.int IntKind.i64 (↑m : Int)), some (Value.int IntKind.i64 (IntKind.wrap IntKind.i64 ((↑k : Int) + (1 : Int))))], heap := [AObj.recs stK m g, AObj.cells T1 [Value.int IntKind.i64 a, Value.int IntKind.i64 b], AObj.cells T2 [Value.int IntKind.i64 x, Value.int IntKind.i64 y]] }))))) (Out.done (AE.exit (0 : Nat)) { slots := [some (Value.pointer (some { block := (1 : Nat), off := (0 : Nat) })), some (Value.pointer (some { block := (2 : Nat), off := (0 : Nat) }))], heap := [AObj.recs stK m g, AObj.cells T1 [Value.int IntKind.i64 a, Value.int IntKind.i64 b], AObj.cells T2 [Value.int IntKind.i64 x, Value.int IntKind.i64 y]] }) := by kernel_rfl
theorem run_mx (m : Nat) (g : Nat → List Value) : evV K11 lMx Try.f9 [.slice (some ⟨0, 0, some 0⟩) m m] [.recs stK m g] = tst (decide ((↑m : Int) > (64 : Int))) (Out.done AE.ret { slots := [some (Value.tuple { toList := [Value.agg { toList := [Value.int IntKind.i64 (0 : Int), Value.int IntKind.i64 (0 : Int)] }, Value.int IntKind.i64 (2 : Int)] })], heap := [] }) (Out.ask (m = m ∧ m = m ∧ (↑m : Int) = (↑m : Int) ∧ (0 : Int) = (0 : Int) ∧ (0 : Int) = (0 : Int) ∧ (0 : Int) = (0 : Int) ∧ m ≤ (140737488355328 : Nat)) (tst (mxE g m != (0 : Int)) (Out.done AE.ret { slots := [some (Value.tuple { toList := [Value.agg { toList := [Value.int IntKind.i64 (0 : Int), Value.int IntKind.i64 (0 : Int)] }, Value.int IntKind.i64 (mxE g m)] })], heap := [] }) (Out.done AE.ret { slots := [some (Value.tuple { toList := [Value.agg { toList := [Value.int IntKind.i64 (mxW g m).1, Value.int IntKind.i64 (mxW g m).2] }, Value.int IntKind.i64 (0 : Int)] })], heap := [] }))) := by kernel_rfl
-- @end
theorem loop_mx : LOk K11.P (bodyOf Try.f9 0) (lspec 31 keepMx 3 gMxL) := lspec_ok K11_ok (L := noL) (fun c' _ F h => by cases h) fun Φ vs H k hm0 h => by
  unfold gMxL at h
  split at h
  · rename_i l c n i sh m g T1 a b T2 x y
    split at h
    · rename_i hsh
      have := shEq_eq hsh
      subst this
      obtain ⟨⟨rfl, rfl, rfl, rfl, rfl, rfl, hb⟩, h⟩ := h
      refine ⟨{j : Nat // j ≤ c ∧ mxE g j = 0}, fun i => [.pointer (some ⟨1, 0, none⟩), .pointer (some ⟨2, 0, none⟩), .slice (some ⟨0, 0, some 0⟩) c c, .int .i64 c, .int .i64 i.1], fun i => [.recs stK c g, .cells T1 [.int .i64 a, .int .i64 b], .cells T2 [.int .i64 (mxW g i.1).1, .int .i64 (mxW g i.1).2]], fun i => c - i.1, ⟨0, by omega, rfl⟩, rfl, rfl, ?_⟩
      rintro ⟨j, hj, hz⟩
      show (ev K11 noL _ ⟨mkSlots 31 [2, 4, 13, 14, 15] [.pointer (some ⟨1, 0, none⟩), .pointer (some ⟨2, 0, none⟩), .slice (some ⟨0, 0, some 0⟩) c c, .int .i64 c, .int .i64 j], [.recs stK c g, .cells T1 [.int .i64 a, .int .i64 b], .cells T2 [.int .i64 (mxW g j).1, .int .i64 (mxW g j).2]]⟩ (pkG 31 keepMx 3)).sat _
      rw [run_mxB]
      refine sat_tst (fun ht => ?_) (fun ht => ?_)
      · have hlt : j < c := by have := of_decide_eq_true ht; omega
        refine sat_ask ⟨by omega, by omega⟩ (sat_ask hlt (sat_tst (fun hc => ?_) (fun hc => ?_)))
        · have hc : (sck (stp (g j)) != 0) = true := hc
          have hc : sck (stp (g j)) ≠ 0 := by simpa using hc
          obtain ⟨e1, e2⟩ := mxE_stop hz hc hlt
          rw [e1, e2, show (sck (stp (g j)) != 0) = true by simpa using hc] at h
          exact ⟨_, rfl, h⟩
        · have hc : (sck (stp (g j)) != 0) = false := hc
          have hc : sck (stp (g j)) = 0 := by simpa using hc
          obtain ⟨e1, e2⟩ := mxE_step hz hc
          refine sat_tst (fun hs => ?_) (fun hs => ?_)
          · have hs : slt (mxW g j) (stp (g j)) = true := hs
            rw [hs] at e2
            have e2 : mxW g (j + 1) = stp (g j) := e2
            refine ⟨⟨j + 1, by omega, e1⟩, ?_, ?_, by show c - (j + 1) < c - j; omega⟩
            · show [some _, some _, some _, some _, some (Value.int .i64 _)] = [some _, some _, some _, some _, some (Value.int .i64 _)]
              rw [wrap_at hlt hb]
            · show [AObj.recs stK c g, AObj.cells T1 _, AObj.cells T2 _] = [AObj.recs stK c g, AObj.cells T1 _, AObj.cells T2 [.int .i64 (mxW g (j + 1)).1, .int .i64 (mxW g (j + 1)).2]]
              rw [e2]
              rfl
          · have hs : slt (mxW g j) (stp (g j)) = false := hs
            rw [hs] at e2
            have e2 : mxW g (j + 1) = mxW g j := e2
            refine ⟨⟨j + 1, by omega, e1⟩, ?_, ?_, by show c - (j + 1) < c - j; omega⟩
            · show [some _, some _, some _, some _, some (Value.int .i64 _)] = [some _, some _, some _, some _, some (Value.int .i64 _)]
              rw [wrap_at hlt hb]
            · show [AObj.recs stK c g, AObj.cells T1 _, AObj.cells T2 _] = [AObj.recs stK c g, AObj.cells T1 _, AObj.cells T2 [.int .i64 (mxW g (j + 1)).1, .int .i64 (mxW g (j + 1)).2]]
              rw [e2]
      · have hge : j = c := by have := of_decide_eq_false ht; omega
        subst hge
        rw [hz] at h
        exact ⟨_, rfl, h⟩
    · exact h.elim
  · exact h.elim
theorem lMx_ok : ∀ F, lMx (key (bodyOf Try.f9 0)) = some F → LOk K11.P (bodyOf Try.f9 0) F := fun F h => by
  have hk : lMx (key (bodyOf Try.f9 0)) = some (lspec 31 keepMx 3 gMxL) := by kernel_rfl
  rw [hk] at h
  cases h
  exact loop_mx
theorem q_mx : QOk K11.P 9 (listC [.one (.rows stK)] gMax) := list_q K11_ok Try.func9 rfl rfl (one_loop (by kernel_rfl) lMx_ok) fun cas r hb hk h => by
  unfold gMax at h
  split at h
  · rename_i sh m g
    obtain ⟨rfl, -⟩ := hk
    obtain ⟨hb, -⟩ := hb
    cases h
    refine ⟨rfl, ?_⟩
    show (evV K11 lMx _ [.slice (some ⟨0, 0, some 0⟩) m m] [.recs stK m g]).sat _
    rw [run_mx]
    unfold maxV maxE
    refine sat_tst (fun h => ?_) fun h0 => ?_
    · rw [show decide (64 < m) = true from decide_eq_true (by have := of_decide_eq_true h; omega)]
      rfl
    · rw [show decide (64 < m) = false from decide_eq_false (by have := of_decide_eq_false h0; omega)]
      refine sat_ask ⟨rfl, rfl, rfl, rfl, rfl, rfl, hb⟩ (sat_tst (fun h => ?_) fun h => ?_)
      · simp only [cond_false, h, cond_true]
        rfl
      · have e : mxE g m = 0 := by simpa using h
        simp only [cond_false, h]
        show [some _] = [some _]
        rw [e]
  · cases h
theorem K12_ok : K12.Ok := K11_ok.addQ q_mx
end Go.Proofs.Ytbmbnbhedalcnaa
