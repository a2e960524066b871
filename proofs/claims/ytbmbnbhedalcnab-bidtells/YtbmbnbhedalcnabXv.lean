/- Are lists of votes the same: the contract. -/
import Derived.Test.YtbmbnbhedalcnabXu
namespace Go.Proofs.Ytbmbnbhedalcnab
open Go.RowKit
-- @file xv.out
theorem run_svB (m m2 k : Nat) (g h : Nat → List Value) : ev K23 noL (bodyOf Try.f13 0) ⟨mkSlots 26 [0, 1, 5] [.slice (some ⟨0, 0, some 0⟩) m m, .slice (some ⟨1, 0, some 0⟩) m2 m2, .int .i64 k], [.recs vtK m g, .recs vtK m2 h]⟩ (pkG 26 keepSV 2) = tst (decide ((↑k : Int) < (↑m : Int))) (Out.ask ((0 : Int) ≤ (↑k : Int) ∧ (↑k : Int) < (↑m : Int)) (Out.ask (k < m) (Out.ask ((0 : Int) ≤ (↑k : Int) ∧ (↑k : Int) < (↑m2 : Int)) (Out.ask (k < m2) (tst (bif false then decide (intV (hdV (g (Int.toNat (↑k : Int) + (0 : Nat)))) = intV (hdV (h (Int.toNat (↑k : Int) + (0 : Nat)))) ∧ intV (hdV (tlV (g (Int.toNat (↑k : Int) + (0 : Nat))))) = intV (hdV (tlV (h (Int.toNat (↑k : Int) + (0 : Nat))))) ∧ intV (hdV (tlV (tlV (g (Int.toNat (↑k : Int) + (0 : Nat)))))) = intV (hdV (tlV (tlV (h (Int.toNat (↑k : Int) + (0 : Nat)))))) ∧ intV (hdV (tlV (tlV (tlV (g (Int.toNat (↑k : Int) + (0 : Nat))))))) = intV (hdV (tlV (tlV (tlV (h (Int.toNat (↑k : Int) + (0 : Nat))))))) ∧ intV (hdV (tlV (tlV (tlV (tlV (g (Int.toNat (↑k : Int) + (0 : Nat)))))))) = intV (hdV (tlV (tlV (tlV (tlV (h (Int.toNat (↑k : Int) + (0 : Nat)))))))) ∧ strV (hdV (tlV (tlV (tlV (tlV (tlV (g (Int.toNat (↑k : Int) + (0 : Nat))))))))) = strV (hdV (tlV (tlV (tlV (tlV (tlV (h (Int.toNat (↑k : Int) + (0 : Nat)))))))))) else !decide (intV (hdV (g (Int.toNat (↑k : Int) + (0 : Nat)))) = intV (hdV (h (Int.toNat (↑k : Int) + (0 : Nat)))) ∧ intV (hdV (tlV (g (Int.toNat (↑k : Int) + (0 : Nat))))) = intV (hdV (tlV (h (Int.toNat (↑k : Int) + (0 : Nat))))) ∧ intV (hdV (tlV (tlV (g (Int.toNat (↑k : Int) + (0 : Nat)))))) = intV (hdV (tlV (tlV (h (Int.toNat (↑k : Int) + (0 : Nat)))))) ∧ intV (hdV (tlV (tlV (tlV (g (Int.toNat (↑k : Int) + (0 : Nat))))))) = intV (hdV (tlV (tlV (tlV (h (Int.toNat (↑k : Int) + (0 : Nat))))))) ∧ intV (hdV (tlV (tlV (tlV (tlV (g (Int.toNat (↑k : Int) + (0 : Nat)))))))) = intV (hdV (tlV (tlV (tlV (tlV (h (Int.toNat (↑k : Int) + (0 : Nat)))))))) ∧ strV (hdV (tlV (tlV (tlV (tlV (tlV (g (Int.toNat (↑k : Int) + (0 : Nat))))))))) = strV (hdV (tlV (tlV (tlV (tlV (tlV (h (Int.toNat (↑k : Int) + (0 : Nat))))))))))) (Out.done AE.ret { slots := [some (Value.bool false)], heap := [AObj.recs vtK m g, AObj.recs vtK m2 h] }) (Out.done AE.normal { slots := [some (Value.slice (some { block := (0 : Nat), off := (0 : Nat), spot := some (0 : Nat) }) m m), some (Value.slice (some { block := (1 : Nat), off := (0 : Nat), spot := some (0 : Nat) }) m2 m2), some (Value.int IntKind.i64 (IntKind.wrap IntKind.i64 ((↑k : Int) + (1 : Int))))], heap := [AObj.recs vtK m g, AObj.recs vtK m2 h] })))))) (Out.done (AE.exit (0 : Nat)) { slots := [], heap := [AObj.recs vtK m g, AObj.recs vtK m2 h] }) := by kernel_rfl
theorem run_sv (m m2 : Nat) (g h : Nat → List Value) : evV K23 lSV Try.f13 [.slice (some ⟨0, 0, some 0⟩) m m, .slice (some ⟨1, 0, some 0⟩) m2 m2] [.recs vtK m g, .recs vtK m2 h] = tst ((↑m : Int) != (↑m2 : Int)) (Out.done AE.ret { slots := [some (Value.bool false)], heap := [] }) (Out.ask (m = m ∧ m = m ∧ m2 = m2 ∧ m2 = m2 ∧ m = m2 ∧ (0 : Int) = (0 : Int) ∧ m ≤ (140737488355328 : Nat)) (tst (sameN g h m) (Out.done AE.ret { slots := [some (Value.bool true)], heap := [] }) (Out.done AE.ret { slots := [some (Value.bool false)], heap := [] }))) := by kernel_rfl
-- @end
theorem loop_sv : LOk K23.P (bodyOf Try.f13 0) (lspec 26 keepSV 2 gSVL) := lspec_ok K23_ok (L := noL) (fun c' _ F h => by cases h) fun Φ vs H k hm0 h => by
  unfold gSVL at h
  split at h
  · rename_i l c l2 c2 i sh m g sh2 m2 hh
    split at h
    · rename_i hsh
      rw [Bool.and_eq_true] at hsh
      have e1 := shEq_eq hsh.1
      have e2 := shEq_eq hsh.2
      subst e1
      subst e2
      obtain ⟨⟨rfl, rfl, rfl, rfl, rfl, rfl, hb⟩, h⟩ := h
      refine ⟨{j : Nat // j ≤ c ∧ sameN g hh j = true}, fun i => [.slice (some ⟨0, 0, some 0⟩) c c, .slice (some ⟨1, 0, some 0⟩) c c, .int .i64 i.1], fun _ => [.recs vtK c g, .recs vtK c hh], fun i => c - i.1, ⟨0, by omega, rfl⟩, rfl, rfl, ?_⟩
      rintro ⟨j, hj, hz⟩
      show (ev K23 noL _ ⟨mkSlots 26 [0, 1, 5] [.slice (some ⟨0, 0, some 0⟩) c c, .slice (some ⟨1, 0, some 0⟩) c c, .int .i64 j], [.recs vtK c g, .recs vtK c hh]⟩ (pkG 26 keepSV 2)).sat _
      rw [run_svB]
      refine sat_tst (fun ht => ?_) (fun ht => ?_)
      · have hlt : j < c := by have := of_decide_eq_true ht; omega
        refine sat_ask ⟨by omega, by omega⟩ (sat_ask hlt (sat_ask ⟨by omega, by omega⟩ (sat_ask hlt (sat_tst (fun hc => ?_) (fun hc => ?_)))))
        · have hc' : (!vEq g hh j) = true := hc
          have hv : vEq g hh j = false := by simpa using hc'
          rw [sameN_at hlt hv] at h
          exact ⟨_, rfl, h⟩
        · have hc' : (!vEq g hh j) = false := hc
          have hv : vEq g hh j = true := by simpa using hc'
          refine ⟨⟨j + 1, by omega, by show (sameN g hh j && vEq g hh j) = true; rw [hz, hv]; rfl⟩, ?_, rfl, by show c - (j + 1) < c - j; omega⟩
          show [some _, some _, some (Value.int .i64 _)] = [some _, some _, some (Value.int .i64 _)]
          rw [wrap_at hlt (by omega)]
      · have hge : j = c := by have := of_decide_eq_false ht; omega
        subst hge
        rw [hz] at h
        exact ⟨_, rfl, h⟩
    · exact h.elim
  · exact h.elim
theorem lSV_ok : ∀ F, lSV (key (bodyOf Try.f13 0)) = some F → LOk K23.P (bodyOf Try.f13 0) F := fun F h => by
  have hk : lSV (key (bodyOf Try.f13 0)) = some (lspec 26 keepSV 2 gSVL) := by kernel_rfl
  rw [hk] at h
  cases h
  exact loop_sv
theorem q_sv : QOk K23.P 13 (listC [.one (.rows vtK), .one (.rows vtK)] gSV) := list_q K23_ok Try.func13 rfl rfl (one_loop (by kernel_rfl) lSV_ok) fun cas r hb hk h => by
  unfold gSV at h
  split at h
  · rename_i sh m g sh2 m2 hh
    obtain ⟨rfl, rfl, -⟩ := hk
    obtain ⟨hb, -, -⟩ := hb
    cases h
    refine ⟨rfl, ?_⟩
    show (evV K23 lSV _ [.slice (some ⟨0, 0, some 0⟩) m m, .slice (some ⟨1, 0, some 0⟩) m2 m2] [.recs vtK m g, .recs vtK m2 hh]).sat _
    rw [run_sv]
    refine sat_tst (fun hn => ?_) (fun hn => ?_)
    · have hn : m ≠ m2 := by have hn : ((m : Int) != (m2 : Int)) = true := hn; intro e; rw [e] at hn; simp at hn
      have e : Nat.beq m m2 = false := by
        cases e' : Nat.beq m m2 with
        | false => rfl
        | true => exact absurd (Nat.eq_of_beq_eq_true e') hn
      rw [e]
      exact leaf_v rfl
    · have hn : m = m2 := by
        have hn : ((m : Int) != (m2 : Int)) = false := hn
        have hn : (m : Int) = (m2 : Int) := by simpa using hn
        omega
      subst hn
      have e : Nat.beq m m = true := Nat.beq_refl m
      rw [e]
      refine sat_ask ⟨rfl, rfl, rfl, rfl, rfl, rfl, hb⟩ (sat_tst (fun hs => ?_) (fun hs => ?_))
      · rw [hs]; exact leaf_v rfl
      · rw [hs]; exact leaf_v rfl
  · cases h
noncomputable def K24 : Kn := K23.addQ 13 (listC [.one (.rows vtK), .one (.rows vtK)] gSV)
theorem K24_ok : K24.Ok := K23_ok.addQ q_sv
end Go.Proofs.Ytbmbnbhedalcnab
