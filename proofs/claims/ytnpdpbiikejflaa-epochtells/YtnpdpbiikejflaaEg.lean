/- Lists held against each other, the reference's ways, by symbolic runs. -/
import Derived.Test.YtnpdpbiikejflaaEf
namespace Go.Proofs.Ytnpdpbiikejflaa
open Go.RowKit
-- @file eg.out
theorem run_seB (m m2 k : Nat) (g h : Nat → List Value) : ev K10 noL (bodyOf Try.f16 0) ⟨mkSlots 26 [0, 1, 5] [.slice (some ⟨0, 0, some 0⟩) m m, .slice (some ⟨1, 0, some 0⟩) m2 m2, .int .i64 k], [.recs ekK m g, .recs ekK m2 h]⟩ (pkG 26 keepSE 2) = tst (decide ((↑k : Int) < (↑m : Int))) (Out.ask ((0 : Int) ≤ (↑k : Int) ∧ (↑k : Int) < (↑m : Int)) (Out.ask (k < m) (Out.ask ((0 : Int) ≤ (↑k : Int) ∧ (↑k : Int) < (↑m2 : Int)) (Out.ask (k < m2) (tst (bif false then decide (intV (hdV (g (Int.toNat (↑k : Int) + (0 : Nat)))) = intV (hdV (h (Int.toNat (↑k : Int) + (0 : Nat)))) ∧ intV (hdV (tlV (g (Int.toNat (↑k : Int) + (0 : Nat))))) = intV (hdV (tlV (h (Int.toNat (↑k : Int) + (0 : Nat)))))) else !decide (intV (hdV (g (Int.toNat (↑k : Int) + (0 : Nat)))) = intV (hdV (h (Int.toNat (↑k : Int) + (0 : Nat)))) ∧ intV (hdV (tlV (g (Int.toNat (↑k : Int) + (0 : Nat))))) = intV (hdV (tlV (h (Int.toNat (↑k : Int) + (0 : Nat))))))) (Out.done AE.ret { slots := [some (Value.bool false)], heap := [AObj.recs ekK m g, AObj.recs ekK m2 h] }) (Out.done AE.normal { slots := [some (Value.slice (some { block := (0 : Nat), off := (0 : Nat), spot := some (0 : Nat) }) m m), some (Value.slice (some { block := (1 : Nat), off := (0 : Nat), spot := some (0 : Nat) }) m2 m2), some (Value.int IntKind.i64 (IntKind.wrap IntKind.i64 ((↑k : Int) + (1 : Int))))], heap := [AObj.recs ekK m g, AObj.recs ekK m2 h] })))))) (Out.done (AE.exit (0 : Nat)) { slots := [], heap := [AObj.recs ekK m g, AObj.recs ekK m2 h] }) := by kernel_rfl
theorem run_se (m m2 : Nat) (g h : Nat → List Value) : evV K10 lSE Try.f16 [.slice (some ⟨0, 0, some 0⟩) m m, .slice (some ⟨1, 0, some 0⟩) m2 m2] [.recs ekK m g, .recs ekK m2 h] = tst ((↑m : Int) != (↑m2 : Int)) (Out.done AE.ret { slots := [some (Value.bool false)], heap := [] }) (Out.ask (m = m ∧ m = m ∧ m2 = m2 ∧ m2 = m2 ∧ m = m2 ∧ (0 : Int) = (0 : Int) ∧ m ≤ (140737488355328 : Nat)) (tst (sameE g h m) (Out.done AE.ret { slots := [some (Value.bool true)], heap := [] }) (Out.done AE.ret { slots := [some (Value.bool false)], heap := [] }))) := by kernel_rfl
theorem run_rcB (m k : Nat) (g : Nat → List Value) : ev K11 noL (bodyOf Try.f12 0) ⟨mkSlots 52 [0, 3] [.slice (some ⟨0, 0, some 0⟩) m m, .int .i64 k], [.recs ekK m g]⟩ (pkG 52 keepRC 1) = tst (decide ((↑k : Int) < (↑m : Int))) (Out.ask ((0 : Int) ≤ (↑k : Int) ∧ (↑k : Int) < (↑m : Int)) (Out.ask (k < m) (tst (intV (hdV (g k)) != IntKind.wrap IntKind.i64 ((↑k : Int) + (1 : Int))) (Out.done AE.ret { slots := [some (Value.int IntKind.i64 (4 : Int))], heap := [AObj.recs ekK m g] }) (Out.ask ((0 : Int) ≤ (↑k : Int) ∧ (↑k : Int) < (↑m : Int)) (Out.ask (k < m) (tst (decide (intV (hdV (tlV (g (Int.toNat (↑k : Int) + (0 : Nat))))) ≥ (4096 : Int))) (Out.done AE.ret { slots := [some (Value.int IntKind.i64 (3 : Int))], heap := [AObj.recs ekK m g] }) (Out.ask ((0 : Int) ≤ (↑k : Int) ∧ (↑k : Int) < (↑m : Int)) (Out.ask (k < m) (Out.ask (aOc [CA.val (Value.int IntKind.u64 (intV (hdV (tlV (g k)))))]) (tst ((↑(pc (Int.toNat (intV (hdV (tlV (g (Int.toNat (↑k : Int) + (0 : Nat)))))))) : Int) == (0 : Int)) (Out.done AE.ret { slots := [some (Value.int IntKind.i64 (8 : Int))], heap := [AObj.recs ekK m g] }) (tst (decide ((↑k : Int) > (0 : Int))) (Out.ask ((0 : Int) ≤ (↑k : Int) ∧ (↑k : Int) < (↑m : Int)) (Out.ask (k < m) (Out.ask ((0 : Int) ≤ IntKind.wrap IntKind.i64 ((↑k : Int) - (1 : Int)) ∧ IntKind.wrap IntKind.i64 ((↑k : Int) - (1 : Int)) < (↑m : Int)) (Out.ask (Int.toNat (IntKind.wrap IntKind.i64 ((↑k : Int) - (1 : Int))) + (0 : Nat) < m) (Out.ask (aOc [CA.val (Value.int IntKind.u64 (IntKind.wrap IntKind.u64 (↑(BitVec.toNat (BitVec.ofInt (IntKind.bits IntKind.u64) (intV (hdV (tlV (g (Int.toNat (↑k : Int) + (0 : Nat)))))) ^^^ BitVec.ofInt (IntKind.bits IntKind.u64) (intV (hdV (tlV (g (Int.toNat (IntKind.wrap IntKind.i64 ((↑k : Int) - (1 : Int))) + (0 : Nat)))))))) : Int)))]) (tst ((↑(pc (Int.toNat (IntKind.wrap IntKind.u64 (↑(BitVec.toNat (BitVec.ofInt (IntKind.bits IntKind.u64) (intV (hdV (tlV (g (Int.toNat (↑k : Int) + (0 : Nat)))))) ^^^ BitVec.ofInt (IntKind.bits IntKind.u64) (intV (hdV (tlV (g (Int.toNat (IntKind.wrap IntKind.i64 ((↑k : Int) - (1 : Int))) + (0 : Nat)))))))) : Int)))) : Int) != (1 : Int)) (Out.done AE.ret { slots := [some (Value.int IntKind.i64 (1 : Int))], heap := [AObj.recs ekK m g] }) (Out.done AE.normal { slots := [some (Value.slice (some { block := (0 : Nat), off := (0 : Nat), spot := some (0 : Nat) }) m m), some (Value.int IntKind.i64 (IntKind.wrap IntKind.i64 ((↑k : Int) + (1 : Int))))], heap := [AObj.recs ekK m g] }))))))) (Out.done AE.normal { slots := [some (Value.slice (some { block := (0 : Nat), off := (0 : Nat), spot := some (0 : Nat) }) m m), some (Value.int IntKind.i64 (IntKind.wrap IntKind.i64 ((↑k : Int) + (1 : Int))))], heap := [AObj.recs ekK m g] })))))))))))) (Out.done (AE.exit (0 : Nat)) { slots := [], heap := [AObj.recs ekK m g] }) := by kernel_rfl
theorem run_rc (m : Nat) (g : Nat → List Value) : evV K11 lRC Try.f12 [.slice (some ⟨0, 0, some 0⟩) m m] [.recs ekK m g] = tst (decide ((↑m : Int) > (64 : Int))) (Out.done AE.ret { slots := [some (Value.int IntKind.i64 (2 : Int))], heap := [] }) (Out.ask (m = m ∧ m = m ∧ (0 : Int) = (0 : Int) ∧ m ≤ (64 : Nat) ∧ RU m g) (tst (firstE g m != (0 : Int)) (Out.done AE.ret { slots := [some (Value.int IntKind.i64 (firstE g m))], heap := [] }) (Out.done AE.ret { slots := [some (Value.int IntKind.i64 (0 : Int))], heap := [] }))) := by kernel_rfl
theorem run_moB (s p q n x : Int) (T k : Nat) : ev K12 noL (bodyOf Try.f18 0) ⟨mkSlots 38 [1, 2, 5, 6, 7] [.int .u64 s, .pointer (some ⟨0, 0, none⟩), .int .i64 p, .int .i64 q, .int .i64 k], [.cells T [.int .i64 n, .int .u64 x]]⟩ (pkG 38 keepMO 1) = tst (decide ((↑k : Int) < (64 : Int))) (Out.ask (aIn [CA.val (Value.int IntKind.u64 x), CA.val (Value.int IntKind.i64 (↑k : Int))]) (tst (Nat.testBit (Int.toNat x) k) (Out.ask (aIn [CA.val (Value.int IntKind.u64 s), CA.val (Value.int IntKind.i64 (↑k : Int))]) (tst (Nat.testBit (Int.toNat s) k) (Out.ask (aIn [CA.val (Value.int IntKind.u64 x), CA.val (Value.int IntKind.i64 (↑k : Int))]) (tst (Nat.testBit (Int.toNat x) k) (Out.ask (aIn [CA.val (Value.int IntKind.u64 s), CA.val (Value.int IntKind.i64 (↑k : Int))]) (tst (!Nat.testBit (Int.toNat s) k) (Out.done AE.normal { slots := [some (Value.int IntKind.u64 s), some (Value.pointer (some { block := (0 : Nat), off := (0 : Nat) })), some (Value.int IntKind.i64 (IntKind.wrap IntKind.i64 (p + (1 : Int)))), some (Value.int IntKind.i64 (IntKind.wrap IntKind.i64 (q + (1 : Int)))), some (Value.int IntKind.i64 (IntKind.wrap IntKind.i64 ((↑k : Int) + (1 : Int))))], heap := [AObj.cells T [Value.int IntKind.i64 n, Value.int IntKind.u64 x]] }) (Out.done AE.normal { slots := [some (Value.int IntKind.u64 s), some (Value.pointer (some { block := (0 : Nat), off := (0 : Nat) })), some (Value.int IntKind.i64 (IntKind.wrap IntKind.i64 (p + (1 : Int)))), some (Value.int IntKind.i64 q), some (Value.int IntKind.i64 (IntKind.wrap IntKind.i64 ((↑k : Int) + (1 : Int))))], heap := [AObj.cells T [Value.int IntKind.i64 n, Value.int IntKind.u64 x]] }))) (Out.done AE.normal { slots := [some (Value.int IntKind.u64 s), some (Value.pointer (some { block := (0 : Nat), off := (0 : Nat) })), some (Value.int IntKind.i64 (IntKind.wrap IntKind.i64 (p + (1 : Int)))), some (Value.int IntKind.i64 q), some (Value.int IntKind.i64 (IntKind.wrap IntKind.i64 ((↑k : Int) + (1 : Int))))], heap := [AObj.cells T [Value.int IntKind.i64 n, Value.int IntKind.u64 x]] }))) (Out.ask (aIn [CA.val (Value.int IntKind.u64 x), CA.val (Value.int IntKind.i64 (↑k : Int))]) (tst (Nat.testBit (Int.toNat x) k) (Out.ask (aIn [CA.val (Value.int IntKind.u64 s), CA.val (Value.int IntKind.i64 (↑k : Int))]) (tst (!Nat.testBit (Int.toNat s) k) (Out.done AE.normal { slots := [some (Value.int IntKind.u64 s), some (Value.pointer (some { block := (0 : Nat), off := (0 : Nat) })), some (Value.int IntKind.i64 p), some (Value.int IntKind.i64 (IntKind.wrap IntKind.i64 (q + (1 : Int)))), some (Value.int IntKind.i64 (IntKind.wrap IntKind.i64 ((↑k : Int) + (1 : Int))))], heap := [AObj.cells T [Value.int IntKind.i64 n, Value.int IntKind.u64 x]] }) (Out.done AE.normal { slots := [some (Value.int IntKind.u64 s), some (Value.pointer (some { block := (0 : Nat), off := (0 : Nat) })), some (Value.int IntKind.i64 p), some (Value.int IntKind.i64 q), some (Value.int IntKind.i64 (IntKind.wrap IntKind.i64 ((↑k : Int) + (1 : Int))))], heap := [AObj.cells T [Value.int IntKind.i64 n, Value.int IntKind.u64 x]] }))) (Out.done AE.normal { slots := [some (Value.int IntKind.u64 s), some (Value.pointer (some { block := (0 : Nat), off := (0 : Nat) })), some (Value.int IntKind.i64 p), some (Value.int IntKind.i64 q), some (Value.int IntKind.i64 (IntKind.wrap IntKind.i64 ((↑k : Int) + (1 : Int))))], heap := [AObj.cells T [Value.int IntKind.i64 n, Value.int IntKind.u64 x]] }))))) (Out.ask (aIn [CA.val (Value.int IntKind.u64 x), CA.val (Value.int IntKind.i64 (↑k : Int))]) (tst (Nat.testBit (Int.toNat x) k) (Out.ask (aIn [CA.val (Value.int IntKind.u64 s), CA.val (Value.int IntKind.i64 (↑k : Int))]) (tst (!Nat.testBit (Int.toNat s) k) (Out.done AE.normal { slots := [some (Value.int IntKind.u64 s), some (Value.pointer (some { block := (0 : Nat), off := (0 : Nat) })), some (Value.int IntKind.i64 p), some (Value.int IntKind.i64 (IntKind.wrap IntKind.i64 (q + (1 : Int)))), some (Value.int IntKind.i64 (IntKind.wrap IntKind.i64 ((↑k : Int) + (1 : Int))))], heap := [AObj.cells T [Value.int IntKind.i64 n, Value.int IntKind.u64 x]] }) (Out.done AE.normal { slots := [some (Value.int IntKind.u64 s), some (Value.pointer (some { block := (0 : Nat), off := (0 : Nat) })), some (Value.int IntKind.i64 p), some (Value.int IntKind.i64 q), some (Value.int IntKind.i64 (IntKind.wrap IntKind.i64 ((↑k : Int) + (1 : Int))))], heap := [AObj.cells T [Value.int IntKind.i64 n, Value.int IntKind.u64 x]] }))) (Out.done AE.normal { slots := [some (Value.int IntKind.u64 s), some (Value.pointer (some { block := (0 : Nat), off := (0 : Nat) })), some (Value.int IntKind.i64 p), some (Value.int IntKind.i64 q), some (Value.int IntKind.i64 (IntKind.wrap IntKind.i64 ((↑k : Int) + (1 : Int))))], heap := [AObj.cells T [Value.int IntKind.i64 n, Value.int IntKind.u64 x]] }))))) (Out.done (AE.exit (0 : Nat)) { slots := [some (Value.int IntKind.i64 p), some (Value.int IntKind.i64 q)], heap := [AObj.cells T [Value.int IntKind.i64 n, Value.int IntKind.u64 x]] }) := by kernel_rfl
theorem run_mo (n x s : Int) : evV K12 lMO Try.f18 [.agg ⟨[.int .i64 n, .int .u64 x]⟩, .int .u64 s] [] = Out.ask ((0 : Int) = (0 : Int) ∧ (0 : Int) = (0 : Int) ∧ (0 : Int) = (0 : Int) ∧ U x ∧ U s) (Out.done AE.ret { slots := [some (Value.bool (decide ((↑(cnt (inB (Int.toNat x) (Int.toNat s)) (64 : Nat)) : Int) > (↑(cnt (outB (Int.toNat x) (Int.toNat s)) (64 : Nat)) : Int))))], heap := [] }) := by kernel_rfl
theorem run_iB (m k : Nat) (g : Nat → List Value) (st n : Int) (b : Bool) : ev K13 noL inn ⟨mkSlots 38 [0, 3, 4, 5, 6] [.slice (some ⟨0, 0, some 0⟩) m m, .int .u64 st, .int .i64 n, .bool b, .int .i64 k], [.recs ekK m g]⟩ (pkG 38 keepI 1) = tst (decide ((↑k : Int) < (↑m : Int))) (tst b (Out.ask ((0 : Int) ≤ (↑k : Int) ∧ (↑k : Int) < (↑m : Int)) (Out.ask (k < m) (Out.ask (aIn [CA.val (Value.int IntKind.u64 (intV (hdV (tlV (g k))))), CA.val (Value.int IntKind.i64 n)]) (Out.done AE.normal { slots := [some (Value.slice (some { block := (0 : Nat), off := (0 : Nat), spot := some (0 : Nat) }) m m), some (Value.int IntKind.u64 st), some (Value.int IntKind.i64 n), some (Value.bool (Nat.testBit (Int.toNat (intV (hdV (tlV (g k))))) (Int.toNat n))), some (Value.int IntKind.i64 (IntKind.wrap IntKind.i64 ((↑k : Int) + (1 : Int))))], heap := [AObj.recs ekK m g] })))) (Out.done AE.normal { slots := [some (Value.slice (some { block := (0 : Nat), off := (0 : Nat), spot := some (0 : Nat) }) m m), some (Value.int IntKind.u64 st), some (Value.int IntKind.i64 n), some (Value.bool false), some (Value.int IntKind.i64 (IntKind.wrap IntKind.i64 ((↑k : Int) + (1 : Int))))], heap := [AObj.recs ekK m g] })) (Out.done (AE.exit (2 : Nat)) { slots := [some (Value.slice (some { block := (0 : Nat), off := (0 : Nat), spot := some (0 : Nat) }) m m), some (Value.int IntKind.u64 st), some (Value.int IntKind.i64 n), some (Value.bool b)], heap := [AObj.recs ekK m g] }) := by kernel_rfl
theorem run_oB (m k : Nat) (g : Nat → List Value) (st : Int) : ev K13 lI (bodyOf Try.f13 0) ⟨mkSlots 38 [0, 3, 4] [.slice (some ⟨0, 0, some 0⟩) m m, .int .u64 st, .int .i64 k], [.recs ekK m g]⟩ (pkG 38 keepO 1) = tst (decide ((↑k : Int) < (12 : Int))) (tst (decide ((↑m : Int) > (0 : Int))) (Out.ask (m = m ∧ m = m ∧ true = true ∧ (0 : Int) = (0 : Int) ∧ m ≤ (140737488355328 : Nat) ∧ RU m g ∧ (0 : Int) ≤ (↑k : Int)) (tst (allIn g k m) (Out.ask ((0 : Int) ≤ (↑k : Int)) (Out.done AE.normal { slots := [some (Value.slice (some { block := (0 : Nat), off := (0 : Nat), spot := some (0 : Nat) }) m m), some (Value.int IntKind.u64 (IntKind.wrap IntKind.u64 (st + shlV IntKind.u64 (1 : Int) (↑k : Int)))), some (Value.int IntKind.i64 (IntKind.wrap IntKind.i64 ((↑k : Int) + (1 : Int))))], heap := [AObj.recs ekK m g] })) (Out.done AE.normal { slots := [some (Value.slice (some { block := (0 : Nat), off := (0 : Nat), spot := some (0 : Nat) }) m m), some (Value.int IntKind.u64 st), some (Value.int IntKind.i64 (IntKind.wrap IntKind.i64 ((↑k : Int) + (1 : Int))))], heap := [AObj.recs ekK m g] }))) (Out.done (AE.exit (0 : Nat)) { slots := [some (Value.int IntKind.u64 st)], heap := [AObj.recs ekK m g] })) (Out.done (AE.exit (0 : Nat)) { slots := [some (Value.int IntKind.u64 st)], heap := [AObj.recs ekK m g] }) := by kernel_rfl
theorem run_cn (m : Nat) (g : Nat → List Value) : evV K13 lO Try.f13 [.slice (some ⟨0, 0, some 0⟩) m m] [.recs ekK m g] = Out.ask (m = m ∧ m = m ∧ (0 : Int) = (0 : Int) ∧ (0 : Int) = (0 : Int) ∧ m ≤ (140737488355328 : Nat) ∧ RU m g) (Out.done AE.ret { slots := [some (Value.int IntKind.u64 (↑(coN m g) : Int))], heap := [] }) := by kernel_rfl
-- @end
theorem loop_se : LOk K10.P (bodyOf Try.f16 0) (lspec 26 keepSE 2 gSEL) := lspec_ok K10_ok (L := noL) (fun c' _ F h => by cases h) fun Φ vs H k hm0 h => by
  unfold gSEL at h
  split at h
  · rename_i l c l2 c2 i sh m g sh2 m2 hh
    split at h
    · rename_i hsh
      rw [Bool.and_eq_true] at hsh
      have e1 := shEq_eq hsh.1
      have e2 := shEq_eq hsh.2
      subst e1
      subst e2
      obtain ⟨⟨rfl, rfl, rfl, rfl, rfl, rfl, hb⟩, h⟩ := h
      refine ⟨{j : Nat // j ≤ c ∧ sameE g hh j = true}, fun i => [.slice (some ⟨0, 0, some 0⟩) c c, .slice (some ⟨1, 0, some 0⟩) c c, .int .i64 i.1], fun _ => [.recs ekK c g, .recs ekK c hh], fun i => c - i.1, ⟨0, by omega, rfl⟩, rfl, rfl, ?_⟩
      rintro ⟨j, hj, hz⟩
      show (ev K10 noL _ ⟨mkSlots 26 [0, 1, 5] [.slice (some ⟨0, 0, some 0⟩) c c, .slice (some ⟨1, 0, some 0⟩) c c, .int .i64 j], [.recs ekK c g, .recs ekK c hh]⟩ (pkG 26 keepSE 2)).sat _
      rw [run_seB]
      refine sat_tst (fun ht => ?_) (fun ht => ?_)
      · have hlt : j < c := by have := of_decide_eq_true ht; omega
        refine sat_ask ⟨by omega, by omega⟩ (sat_ask hlt (sat_ask ⟨by omega, by omega⟩ (sat_ask hlt (sat_tst (fun hc => ?_) (fun hc => ?_)))))
        · have hc' : (!eE g hh j) = true := hc
          have hv : eE g hh j = false := by simpa using hc'
          rw [sameE_stop hv hlt] at h
          exact ⟨_, rfl, h⟩
        · have hc' : (!eE g hh j) = false := hc
          have hv : eE g hh j = true := by simpa using hc'
          refine ⟨⟨j + 1, by omega, by show (sameE g hh j && eE g hh j) = true; rw [hz, hv]; rfl⟩, ?_, rfl, by show c - (j + 1) < c - j; omega⟩
          show [some _, some _, some (Value.int .i64 _)] = [some _, some _, some (Value.int .i64 _)]
          rw [wrap_at hlt (by omega)]
      · have hge : j = c := by have := of_decide_eq_false ht; omega
        subst hge
        rw [hz] at h
        exact ⟨_, rfl, h⟩
    · exact h.elim
  · exact h.elim
theorem lSE_ok : ∀ F, lSE (key (bodyOf Try.f16 0)) = some F → LOk K10.P (bodyOf Try.f16 0) F := fun F h => by
  have hk : lSE (key (bodyOf Try.f16 0)) = some (lspec 26 keepSE 2 gSEL) := by kernel_rfl
  rw [hk] at h
  cases h
  exact loop_se
theorem q_se : QOk K10.P 16 (listC [.one (.rows ekK), .one (.rows ekK)] gSE) := list_q K10_ok Try.func16 rfl rfl (one_loop (by kernel_rfl) lSE_ok) fun cas r hb hk h => by
  unfold gSE at h
  split at h
  · rename_i sh m g sh2 m2 hh
    obtain ⟨rfl, rfl, -⟩ := hk
    obtain ⟨hb, -, -⟩ := hb
    cases h
    refine ⟨rfl, ?_⟩
    show (evV K10 lSE _ [.slice (some ⟨0, 0, some 0⟩) m m, .slice (some ⟨1, 0, some 0⟩) m2 m2] [.recs ekK m g, .recs ekK m2 hh]).sat _
    rw [run_se]
    refine sat_tst (fun hn => ret_b ?_) (fun hn => ?_)
    · have hn : m ≠ m2 := by have hn : ((m : Int) != (m2 : Int)) = true := hn; intro e; rw [e] at hn; simp at hn
      have e : Nat.beq m m2 = false := by
        cases e' : Nat.beq m m2 with
        | false => rfl
        | true => exact absurd (Nat.eq_of_beq_eq_true e') hn
      rw [e]
      rfl
    · have hn : m = m2 := by
        have hn : ((m : Int) != (m2 : Int)) = false := hn
        have hn : (m : Int) = (m2 : Int) := by simpa using hn
        omega
      subst hn
      have e : Nat.beq m m = true := Nat.beq_refl m
      rw [e]
      refine sat_ask ⟨rfl, rfl, rfl, rfl, rfl, rfl, hb⟩ (sat_tst (fun hs => ret_b ?_) (fun hs => ret_b ?_))
      · rw [hs]; rfl
      · rw [hs]; rfl
  · cases h
theorem K11_ok : K11.Ok := K10_ok.addQ q_se
theorem loop_rc : LOk K11.P (bodyOf Try.f12 0) (lspec 52 keepRC 1 gRCL) := lspec_ok K11_ok (L := noL) (fun c' _ F h => by cases h) fun Φ vs H k hm0 h => by
  unfold gRCL at h
  split at h
  · rename_i l m i sh m0 g
    split at h
    · rename_i hsh
      have := shEq_eq hsh
      subst this
      obtain ⟨⟨rfl, rfl, rfl, hb, hU⟩, h⟩ := h
      refine ⟨{j : Nat // j ≤ m ∧ firstE g j = 0}, fun i => [.slice (some ⟨0, 0, some 0⟩) m m, .int .i64 i.1], fun _ => [.recs ekK m g], fun i => m - i.1, ⟨0, by omega, rfl⟩, rfl, rfl, ?_⟩
      rintro ⟨j, hj, hz⟩
      show (ev K11 noL _ ⟨mkSlots 52 [0, 3] [.slice (some ⟨0, 0, some 0⟩) m m, .int .i64 j], [.recs ekK m g]⟩ (pkG 52 keepRC 1)).sat _
      rw [run_rcB]
      refine sat_tst (fun ht => ?_) (fun ht => ?_)
      · have hlt : j < m := by have := of_decide_eq_true ht; omega
        have stop : ∀ e : Int, errAt g j = e → e ≠ 0 → ∃ vs' : List Value, [some (Value.int .i64 e)] = someL vs' ∧ (k .ret vs' [.recs ekK m g]).sat Φ := fun e he h0 => by
          have e1 := firstE_stop hz (by rw [he]; exact h0) hlt
          rw [he] at e1
          rw [e1] at h
          have hb : (e != 0) = true := by simpa using h0
          rw [hb] at h
          exact ⟨_, rfl, h⟩
        have next : errAt g j = 0 → ∃ i' : {j : Nat // j ≤ m ∧ firstE g j = 0}, [some (Value.slice (some ⟨0, 0, some 0⟩) m m), some (Value.int .i64 (IntKind.wrap IntKind.i64 ((j : Int) + 1)))] = someL [.slice (some ⟨0, 0, some 0⟩) m m, .int .i64 i'.1] ∧ [AObj.recs ekK m g] = [.recs ekK m g] ∧ m - i'.1 < m - j := fun he => by
          refine ⟨⟨j + 1, by omega, firstE_step hz he⟩, ?_, rfl, by show m - (j + 1) < m - j; omega⟩
          rw [wrap_at hlt (by omega)]
          rfl
        have hu := hU j hlt
        have hin : (0 : Int) ≤ (j : Int) ∧ (j : Int) < (m : Int) := ⟨by omega, by omega⟩
        refine sat_ask hin (sat_ask hlt (sat_tst (fun h1 => ?_) fun h1 => ?_))
        · rw [wrap_at hlt (by omega)] at h1
          exact stop 4 (err4 (by simpa using h1)) (by decide)
        · rw [wrap_at hlt (by omega)] at h1
          have h1 : no (g j) = (j : Int) + 1 := by simpa using h1
          refine sat_ask hin (sat_ask hlt (sat_tst (fun h2 => ?_) fun h2 => ?_))
          · have h2 : me (g j) ≥ 4096 := of_decide_eq_true h2
            exact stop 3 (err3 h1 h2) (by decide)
          · have h2 : ¬ me (g j) ≥ 4096 := of_decide_eq_false h2
            have hp : (((pc (me (g j)).toNat : Nat) : Int) == 0) = (me (g j) == 0) := by
              obtain ⟨n, e, hn⟩ := hu.nat
              rw [e]
              simp only [Int.toNat_natCast]
              by_cases hz0 : n = 0
              · subst hz0
                have : pc 0 = 0 := cnt_none.2 fun i _ => Nat.zero_testBit i
                rw [this]
              · have h1 : pc n ≠ 0 := fun e => hz0 (by
                  have := cnt_none.1 e
                  apply Nat.eq_of_testBit_eq
                  intro i
                  rw [Nat.zero_testBit]
                  by_cases hi : i < 64
                  · exact this i hi
                  · exact Nat.testBit_lt_two_pow (Nat.lt_of_lt_of_le (show n < 2 ^ 64 from hn) (Nat.pow_le_pow_right (by decide) (by omega))))
                rw [show (((pc n : Nat) : Int) == 0) = false by simpa using h1, show ((n : Int) == 0) = false by simpa using hz0]
            refine sat_ask hin (sat_ask hlt (sat_ask hu ?_))
            show (tst (((pc (me (g j)).toNat : Nat) : Int) == 0) _ _).sat _
            rw [hp]
            refine sat_tst (fun h3 => ?_) fun h3 => ?_
            · exact stop 8 (err8 h1 (by simpa using h3)) (by decide)
            · have h3 : me (g j) ≠ 0 := by simpa using h3
              have he := err1 h1 h2 h3
              refine sat_tst (fun h4 => ?_) fun h4 => ?_
              · have h4 : 0 < j := by have := of_decide_eq_true h4; omega
                have ep := pred_at h4 (by omega)
                have hu2 := hU (j - 1) (by omega)
                rw [ep]
                refine sat_ask hin (sat_ask hlt (sat_ask ⟨by omega, by omega⟩ (sat_ask (by show j - 1 + 0 < m; omega) (sat_ask (wrap_U _) ?_))))
                show (tst (((pc (xorI (me (g j)) (me (g (j - 1)))).toNat : Nat) : Int) != 1) _ _).sat _
                rw [xorI_toNat hu hu2]
                rw [decide_eq_true h4] at he
                refine sat_tst (fun h5 => ?_) fun h5 => ?_
                · refine stop 1 (he.trans ?_) (by decide)
                  have h5 : ((pc ((me (g j)).toNat ^^^ (me (g (j - 1))).toNat) : Nat) : Int) ≠ 1 := by simpa using h5
                  rw [show Nat.beq (pc ((me (g j)).toNat ^^^ (me (g (j - 1))).toNat)) 1 = false from by
                    cases hq : Nat.beq (pc ((me (g j)).toNat ^^^ (me (g (j - 1))).toNat)) 1 with
                    | false => rfl
                    | true => rw [Nat.beq_eq] at hq; omega]
                  rfl
                · refine next (he.trans ?_)
                  have h5 : ((pc ((me (g j)).toNat ^^^ (me (g (j - 1))).toNat) : Nat) : Int) = 1 := by simpa using h5
                  rw [show pc ((me (g j)).toNat ^^^ (me (g (j - 1))).toNat) = 1 by omega]
                  rfl
              · have h4 : ¬ 0 < j := by have := of_decide_eq_false h4; omega
                rw [decide_eq_false h4] at he
                exact next he
      · have hge : j = m := by have := of_decide_eq_false ht; omega
        subst hge
        rw [hz] at h
        exact ⟨[], rfl, h⟩
    · exact h.elim
  · exact h.elim
theorem lRC_ok : ∀ F, lRC (key (bodyOf Try.f12 0)) = some F → LOk K11.P (bodyOf Try.f12 0) F := fun F h => by
  have hk : lRC (key (bodyOf Try.f12 0)) = some (lspec 52 keepRC 1 gRCL) := by kernel_rfl
  rw [hk] at h
  cases h
  exact loop_rc
theorem q_rc : QOk K11.P 12 (listA [.one (.rows ekK)] aCk gCk) := list_qA K11_ok Try.func12 rfl rfl (one_loop (by kernel_rfl) lRC_ok) fun cas r hb hk ha h => by
  unfold gCk at h
  split at h
  · rename_i sh m g
    obtain ⟨rfl, -⟩ := hk
    cases h
    refine ⟨rfl, ?_⟩
    show (evV K11 lRC _ [.slice (some ⟨0, 0, some 0⟩) m m] [.recs ekK m g]).sat _
    rw [run_rc]
    unfold chE
    refine sat_tst (fun h => ret_i ?_) fun h0 => ?_
    · rw [show decide (64 < m) = true from decide_eq_true (by have := of_decide_eq_true h; omega)]
      rfl
    · have h0 := of_decide_eq_false h0
      rw [show decide (64 < m) = false from decide_eq_false (by omega)]
      refine sat_ask ⟨rfl, rfl, rfl, by omega, ha⟩ (sat_tst (fun h => rfl) fun h => ret_i ?_)
      have h : firstE g m = 0 := by simpa using h
      exact h.symm
  · cases h
theorem K12_ok : K12.Ok := K11_ok.addQ q_rc
theorem loop_mo : LOk K12.P (bodyOf Try.f18 0) (lspec 38 keepMO 1 gMOL) := lspec_ok K12_ok (L := noL) (fun c' _ F h => by cases h) fun Φ vs H k hm0 h => by
  unfold gMOL at h
  split at h
  · rename_i s p q i T n x
    obtain ⟨⟨rfl, rfl, rfl, hx, hs⟩, h⟩ := h
    refine ⟨{j : Nat // j ≤ 64}, fun i => [.int .u64 s, .pointer (some ⟨0, 0, none⟩), .int .i64 (cnt (inB x.toNat s.toNat) i.1), .int .i64 (cnt (outB x.toNat s.toNat) i.1), .int .i64 i.1], fun _ => [.cells T [.int .i64 n, .int .u64 x]], fun i => 64 - i.1, ⟨0, by omega⟩, rfl, rfl, ?_⟩
    rintro ⟨j, hj⟩
    show (ev K12 noL _ ⟨mkSlots 38 [1, 2, 5, 6, 7] [.int .u64 s, .pointer (some ⟨0, 0, none⟩), .int .i64 (cnt (inB x.toNat s.toNat) j), .int .i64 (cnt (outB x.toNat s.toNat) j), .int .i64 j], [.cells T [.int .i64 n, .int .u64 x]]⟩ (pkG 38 keepMO 1)).sat _
    rw [run_moB]
    have hc1 := cnt_le (inB x.toNat s.toNat) j
    have hc2 := cnt_le (outB x.toNat s.toNat) j
    refine sat_tst (fun ht => ?_) (fun ht => ?_)
    · have hlt : j < 64 := by have := of_decide_eq_true ht; omega
      have a1 : aIn [.val (.int .u64 x), .val (.int .i64 j)] := ⟨hx, by omega⟩
      have a2 : aIn [.val (.int .u64 s), .val (.int .i64 j)] := ⟨hs, by omega⟩
      have e1 : cnt (inB x.toNat s.toNat) (j + 1) = cnt (inB x.toNat s.toNat) j + (x.toNat.testBit j && s.toNat.testBit j).toNat := rfl
      have e2 : cnt (outB x.toNat s.toNat) (j + 1) = cnt (outB x.toNat s.toNat) j + (x.toNat.testBit j && !s.toNat.testBit j).toNat := rfl
      have fin : ∀ (p q r : Int), p = (cnt (inB x.toNat s.toNat) (j + 1) : Nat) → q = (cnt (outB x.toNat s.toNat) (j + 1) : Nat) → r = ((j + 1 : Nat) : Int) → ∃ i' : {j : Nat // j ≤ 64}, [some (Value.int .u64 s), some (Value.pointer (some ⟨0, 0, none⟩)), some (Value.int .i64 p), some (Value.int .i64 q), some (Value.int .i64 r)] = someL [.int .u64 s, .pointer (some ⟨0, 0, none⟩), .int .i64 (cnt (inB x.toNat s.toNat) i'.1), .int .i64 (cnt (outB x.toNat s.toNat) i'.1), .int .i64 i'.1] ∧ [AObj.cells T [.int .i64 n, .int .u64 x]] = [.cells T [.int .i64 n, .int .u64 x]] ∧ 64 - i'.1 < 64 - j := fun p q r hp hq hr => by
        subst hp
        subst hq
        subst hr
        exact ⟨⟨j + 1, by omega⟩, rfl, rfl, by show 64 - (j + 1) < 64 - j; omega⟩
      have w := wrap_inc (k := j) (by omega)
      have w1 := wrap_inc (k := cnt (inB x.toNat s.toNat) j) (by omega)
      have w2 := wrap_inc (k := cnt (outB x.toNat s.toNat) j) (by omega)
      refine sat_ask a1 (sat_tst (fun b1 => sat_ask a2 (sat_tst (fun b2 => sat_ask a1 (sat_tst (fun _ => sat_ask a2 (sat_tst (fun b3 => ?_) fun b3 => ?_)) fun b4 => ?_)) fun b2 => sat_ask a1 (sat_tst (fun _ => sat_ask a2 (sat_tst (fun b3 => ?_) fun b3 => ?_)) fun b4 => ?_))) fun b1 => sat_ask a1 (sat_tst (fun b4 => ?_) fun b4 => ?_))
      · rw [b2] at b3; cases b3
      · rw [w, w1]
        exact fin _ _ _ (by rw [e1, b1, b2]; rfl) (by rw [e2, b1, b2]; rfl) rfl
      · rw [b1] at b4; cases b4
      · rw [w, w2]
        exact fin _ _ _ (by rw [e1, b1, b2]; rfl) (by rw [e2, b1, b2]; rfl) rfl
      · rw [b2] at b3; cases b3
      · rw [b1] at b4; cases b4
      · rw [b1] at b4; cases b4
      · rw [w]
        exact fin _ _ _ (by rw [e1, b1]; rfl) (by rw [e2, b1]; rfl) rfl
    · have hge : j = 64 := by have := of_decide_eq_false ht; omega
      subst hge
      exact ⟨_, rfl, h⟩
  · exact h.elim
theorem lMO_ok : ∀ F, lMO (key (bodyOf Try.f18 0)) = some F → LOk K12.P (bodyOf Try.f18 0) F := fun F h => by
  have hk : lMO (key (bodyOf Try.f18 0)) = some (lspec 38 keepMO 1 gMOL) := by kernel_rfl
  rw [hk] at h
  cases h
  exact loop_mo
/-- pointwise, summed -/
theorem cnt_lin {a b c : Nat → Bool} (h : ∀ i, (a i).toNat = (b i).toNat + (c i).toNat) : ∀ k, cnt a k = cnt b k + cnt c k
  | 0 => rfl
  | k + 1 => by
    have := cnt_lin h k
    have := h k
    unfold cnt
    omega
theorem in_out (x s : Nat) : cnt (inB x s) 64 = pc (x &&& s) ∧ cnt (inB x s) 64 + cnt (outB x s) 64 = pc x := by
  refine ⟨cnt_congr fun i _ => by rw [Nat.testBit_and]; rfl, (cnt_lin (a := x.testBit) (fun i => ?_) 64).symm⟩
  unfold inB outB
  cases x.testBit i <;> cases s.testBit i <;> rfl
theorem q_mo : QOk K12.P 18 (listA [vK, vK] aMj gMj) := list_qA K12_ok Try.func18 rfl rfl (one_loop (by kernel_rfl) lMO_ok) fun cas r hb hk ha h => by
  unfold gMj at h
  split at h
  · rename_i n x s
    cases h
    refine ⟨rfl, ?_⟩
    show (evV K12 lMO _ [.agg ⟨[.int .i64 n, .int .u64 x]⟩, .int .u64 s] []).sat _
    rw [run_mo]
    obtain ⟨hx, hs⟩ : U x ∧ U s := ha
    refine sat_ask ⟨rfl, rfl, rfl, hx, hs⟩ (ret_b ?_)
    obtain ⟨e1, e2⟩ := in_out x.toNat s.toNat
    simp only [decide_eq_decide]
    omega
  · cases h
theorem K13_ok : K13.Ok := K12_ok.addQ q_mo
theorem loop_i : LOk K13.P inn (lspec 38 keepI 1 gIL) := lspec_ok K13_ok (L := noL) (fun c' _ F h => by cases h) fun Φ vs H k hm0 h => by
  unfold gIL at h
  split at h
  · rename_i l m st n b i sh m0 g
    split at h
    · rename_i hsh
      have := shEq_eq hsh
      subst this
      obtain ⟨⟨rfl, rfl, rfl, rfl, hb, hU, hn⟩, h⟩ := h
      refine ⟨{j : Nat // j ≤ m}, fun i => [.slice (some ⟨0, 0, some 0⟩) m m, .int .u64 st, .int .i64 n, .bool (allIn g n.toNat i.1), .int .i64 i.1], fun _ => [.recs ekK m g], fun i => m - i.1, ⟨0, by omega⟩, rfl, rfl, ?_⟩
      rintro ⟨j, hj⟩
      show (ev K13 noL _ ⟨mkSlots 38 [0, 3, 4, 5, 6] [.slice (some ⟨0, 0, some 0⟩) m m, .int .u64 st, .int .i64 n, .bool (allIn g n.toNat j), .int .i64 j], [.recs ekK m g]⟩ (pkG 38 keepI 1)).sat _
      rw [run_iB]
      refine sat_tst (fun ht => ?_) (fun ht => ?_)
      · have hlt : j < m := by have := of_decide_eq_true ht; omega
        have fin : ∀ (p : Bool) (r : Int), p = allIn g n.toNat (j + 1) → r = ((j + 1 : Nat) : Int) → ∃ i' : {j : Nat // j ≤ m}, [some (Value.slice (some ⟨0, 0, some 0⟩) m m), some (Value.int .u64 st), some (Value.int .i64 n), some (Value.bool p), some (Value.int .i64 r)] = someL [.slice (some ⟨0, 0, some 0⟩) m m, .int .u64 st, .int .i64 n, .bool (allIn g n.toNat i'.1), .int .i64 i'.1] ∧ [AObj.recs ekK m g] = [.recs ekK m g] ∧ m - i'.1 < m - j := fun p r hp hr => by
          subst hp
          subst hr
          exact ⟨⟨j + 1, by omega⟩, rfl, rfl, by show m - (j + 1) < m - j; omega⟩
        have w := wrap_at hlt hb
        refine sat_tst (fun h1 => sat_ask ⟨by omega, by omega⟩ (sat_ask hlt (sat_ask ⟨hU j hlt, hn⟩ ?_))) fun h1 => ?_
        · exact fin _ _ (by show _ = (allIn g n.toNat j && (me (g j)).toNat.testBit n.toNat); rw [h1]; rfl) w
        · exact fin _ _ (by show _ = (allIn g n.toNat j && (me (g j)).toNat.testBit n.toNat); rw [h1]; rfl) w
      · have hge : j = m := by have := of_decide_eq_false ht; omega
        subst hge
        exact ⟨_, rfl, h⟩
    · exact h.elim
  · exact h.elim
theorem lI_ok : ∀ F, lI (key inn) = some F → LOk K13.P inn F := fun F h => by
  have hk : lI (key inn) = some (lspec 38 keepI 1 gIL) := by kernel_rfl
  rw [hk] at h
  cases h
  exact loop_i
theorem in_loops : loops (bodyOf Try.f13 0) = [inn] := by kernel_rfl
theorem shl_nat {k : Nat} (h : k < 64) : shlV .u64 1 (k : Int) = ((2 ^ k : Nat) : Int) := by
  unfold shlV
  rw [show min ((k : Int).toNat) (IntKind.bits .u64) = k from by rw [Int.toNat_natCast]; exact Nat.min_eq_left (show k ≤ 64 by omega)]
  have hlt : 2 ^ k < 18446744073709551616 := Nat.pow_lt_pow_right (a := 2) (n := 64) (by decide) h
  rw [Int.one_mul, show (2 : Int) ^ k = ((2 ^ k : Nat) : Int) from by rw [Int.natCast_pow]; rfl]
  exact wrap_nat hlt
theorem loop_o : LOk K13.P (bodyOf Try.f13 0) (lspec 38 keepO 1 gOL) := lspec_ok K13_ok (L := lI) (fun c' hc F h => by
    rw [in_loops] at hc
    rw [List.mem_singleton.1 hc] at h ⊢
    exact lI_ok F h) fun Φ vs H k hm0 h => by
  unfold gOL at h
  split at h
  · rename_i l m st n sh m0 g
    split at h
    · rename_i hsh
      have := shEq_eq hsh
      subst this
      obtain ⟨⟨rfl, rfl, rfl, rfl, hb, hU⟩, h⟩ := h
      refine ⟨{j : Nat // j ≤ 12 ∧ (m = 0 → j = 0)}, fun i => [.slice (some ⟨0, 0, some 0⟩) m m, .int .u64 (bitsum (fun b => allIn g b m) i.1), .int .i64 i.1], fun _ => [.recs ekK m g], fun i => 12 - i.1, ⟨0, by omega, fun _ => rfl⟩, rfl, rfl, ?_⟩
      rintro ⟨j, hj, hj0⟩
      show (ev K13 lI _ ⟨mkSlots 38 [0, 3, 4] [.slice (some ⟨0, 0, some 0⟩) m m, .int .u64 (bitsum (fun b => allIn g b m) j), .int .i64 j], [.recs ekK m g]⟩ (pkG 38 keepO 1)).sat _
      rw [run_oB]
      refine sat_tst (fun ht => ?_) (fun ht => ?_)
      · have hlt : j < 12 := by have := of_decide_eq_true ht; omega
        refine sat_tst (fun h1 => ?_) fun h1 => ?_
        · have h1 : 0 < m := by have := of_decide_eq_true h1; omega
          have hl := bitsum_lt (fun b => allIn g b m) j
          have hp : 2 ^ j < 4096 := Nat.pow_lt_pow_right (a := 2) (n := 12) (by decide) hlt
          have w := wrap_inc (k := j) (by omega)
          refine sat_ask ⟨rfl, rfl, rfl, rfl, hb, hU, by omega⟩ (sat_tst (fun h2 => sat_ask (by omega) ?_) fun h2 => ?_)
          · refine ⟨⟨j + 1, by omega, fun e => by omega⟩, ?_, rfl, by show 12 - (j + 1) < 12 - j; omega⟩
            show [some _, some (Value.int .u64 _), some (Value.int .i64 _)] = [some _, some (Value.int .u64 ((bitsum (fun b => allIn g b m) j + (bif allIn g j m then 2 ^ j else 0) : Nat) : Int)), some _]
            rw [w, h2, shl_nat (by omega), addU_nat (by omega)]
            rfl
          · refine ⟨⟨j + 1, by omega, fun e => by omega⟩, ?_, rfl, by show 12 - (j + 1) < 12 - j; omega⟩
            show [some _, some (Value.int .u64 _), some (Value.int .i64 _)] = [some _, some (Value.int .u64 ((bitsum (fun b => allIn g b m) j + (bif allIn g j m then 2 ^ j else 0) : Nat) : Int)), some _]
            rw [w, h2]
            rfl
        · have h1 : m = 0 := by have := of_decide_eq_false h1; omega
          have := hj0 h1
          subst this
          subst h1
          exact ⟨_, rfl, h⟩
      · have hge : j = 12 := by have := of_decide_eq_false ht; omega
        subst hge
        have hm : m ≠ 0 := fun e => by have := hj0 e; omega
        have e : coN m g = bitsum (fun b => allIn g b m) 12 := by
          unfold coN
          rw [show Nat.beq m 0 = false from by cases m; exact absurd rfl hm; rfl]
          rfl
        rw [e] at h
        exact ⟨_, rfl, h⟩
    · exact h.elim
  · exact h.elim
theorem lO_ok : ∀ F, lO (key (bodyOf Try.f13 0)) = some F → LOk K13.P (bodyOf Try.f13 0) F := fun F h => by
  have hk : lO (key (bodyOf Try.f13 0)) = some (lspec 38 keepO 1 gOL) := by kernel_rfl
  rw [hk] at h
  cases h
  exact loop_o
theorem q_cn : QOk K13.P 13 (listA [.one (.rows ekK)] aCk gCN) := list_qA K13_ok Try.func13 rfl rfl (one_loop (by kernel_rfl) lO_ok) fun cas r hb hk ha h => by
  unfold gCN at h
  split at h
  · rename_i sh m g
    obtain ⟨rfl, -⟩ := hk
    obtain ⟨hb, -⟩ := hb
    cases h
    refine ⟨rfl, ?_⟩
    show (evV K13 lO _ [.slice (some ⟨0, 0, some 0⟩) m m] [.recs ekK m g]).sat _
    rw [run_cn]
    exact sat_ask ⟨rfl, rfl, rfl, rfl, hb, ha⟩ rfl
  · cases h
theorem K14_ok : K14.Ok := K13_ok.addQ q_cn
end Go.Proofs.Ytnpdpbiikejflaa
