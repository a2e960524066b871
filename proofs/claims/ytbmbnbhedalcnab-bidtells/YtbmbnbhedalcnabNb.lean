/- Majorities and operations, by the reference. -/
import Derived.Test.YtbmbnbhedalcnabNa
namespace Go.Proofs.Ytbmbnbhedalcnab
open Go.RowKit
-- @file nb.out
theorem run_rqc (m : Nat) (g : Nat → List Value) (need : Int) : evV K29 noL Try.f43 [.slice (some ⟨0, 0, some 0⟩) m m, .int .i64 need] [.recs wtK m g] = Out.ask (m ≤ m ∧ m ≤ (140737488355328 : Nat)) (tst (wE (wsOf m fun j => g j) != (0 : Int)) (Out.done AE.ret { slots := [some (Value.int IntKind.i64 (wE (wsOf m fun j => g j)))], heap := [] }) (tst (decide (need < (1 : Int))) (Out.done AE.ret { slots := [some (Value.int IntKind.i64 (3 : Int))], heap := [] }) (tst (decide (need > rwV (wsOf m fun j => g (j + (0 : Nat))))) (Out.done AE.ret { slots := [some (Value.int IntKind.i64 (3 : Int))], heap := [] }) (tst (decide (IntKind.wrap IntKind.i64 (need * (2 : Int)) ≤ rwV (wsOf m fun j => g (j + (0 : Nat))))) (Out.done AE.ret { slots := [some (Value.int IntKind.i64 (4 : Int))], heap := [] }) (Out.done AE.ret { slots := [some (Value.int IntKind.i64 (0 : Int))], heap := [] }))))) := by kernel_rfl
def x_rqc (m : Nat) (g : Nat → List Value) (need : Int) : Int := (bif wE (wsOf m fun j => g j) != (0 : Int) then (wE (wsOf m fun j => g j)) else (bif decide (need < (1 : Int)) then (3 : Int) else (bif decide (need > rwV (wsOf m fun j => g (j + (0 : Nat)))) then (3 : Int) else (bif decide (IntKind.wrap IntKind.i64 (need * (2 : Int)) ≤ rwV (wsOf m fun j => g (j + (0 : Nat)))) then (4 : Int) else (0 : Int)))))
def g_rqc : List CA → Option Value
  | [.rows _ m g, .val (.int .i64 need)] => some (.int .i64 (x_rqc m g need))
  | _ => none
theorem q_rqc : QOk K29.P 43 (listC [.one (.rows wtK), .one .val] g_rqc) := list_q K29_ok Try.func43 rfl rfl (no_loops rfl) fun cas r hb hk h => by
  unfold g_rqc at h
  split at h
  · rename_i sh0 m g need
    have e0 := kind_rows (i := 0) hk rfl rfl
    have hbm := bnd_rows (i := 0) hb rfl
    subst e0
    cases h
    refine ⟨rfl, ?_⟩
    show (evV K29 noL _ [.slice (some ⟨0, 0, some 0⟩) m m, .int .i64 need] [.recs wtK m g]).sat _
    rw [run_rqc]
    exact sat_ask (by first | omega | exact ⟨Nat.le_refl _, by assumption⟩ | exact ⟨rfl, rfl⟩ | simp_all) (sat_tst (fun h0 => leaf_v (by simp only [x_rqc, h0, cond_true])) (fun h0 => sat_tst (fun h1 => leaf_v (by simp only [x_rqc, h0, h1, cond_true, cond_false])) (fun h1 => sat_tst (fun h2 => leaf_v (by simp only [x_rqc, h0, h1, h2, cond_true, cond_false])) (fun h2 => sat_tst (fun h3 => leaf_v (by simp only [x_rqc, h0, h1, h2, h3, cond_true, cond_false])) (fun h3 => leaf_v (by simp only [x_rqc, h0, h1, h2, h3, cond_false]))))))
  · cases h
-- @end
-- @file nb.chain
noncomputable def K30 : Kn := K29.addQ 43 (listC [.one (.rows wtK), .one .val] g_rqc)
theorem K30_ok : K30.Ok := K29_ok.addQ q_rqc
-- @end
theorem wE_z {L : List Int} (h : wE L = 0) : L.length ≤ 12 ∧ anyB L = false := by
  unfold wE at h
  by_cases e1 : L.length = 0
  · rw [if_pos e1] at h; omega
  · rw [if_neg e1] at h
    by_cases e2 : 12 < L.length
    · rw [if_pos e2] at h; omega
    · rw [if_neg e2] at h
      cases e3 : anyB L with
      | false => exact ⟨by omega, rfl⟩
      | true => rw [e3, if_pos rfl] at h; omega
theorem rqc_eq (m : Nat) (g : Nat → List Value) (need : Int) : x_rqc m g need = qE (wsOf m g) need := by
  show (bif wE (wsOf m g) != 0 then wE (wsOf m g) else (bif decide (need < 1) then (3 : Int) else bif decide (need > rwV (wsOf m g)) then (3 : Int) else bif decide (IntKind.wrap .i64 (need * 2) ≤ rwV (wsOf m g)) then (4 : Int) else 0)) = qE (wsOf m g) need
  unfold qE rwV
  by_cases h : wE (wsOf m g) = 0
  · obtain ⟨h1, h2⟩ := wE_z h
    have ht := tot_le h2 _ (Nat.le_refl _)
    rw [show (wE (wsOf m g) != 0) = false from by rw [h]; rfl, if_pos h, if_neg (by omega)]
    generalize totK (wsOf m g) (wsOf m g).length = T at ht ⊢
    have hT : T ≤ 1200 := by omega
    by_cases a : need < 1
    · rw [decide_eq_true a, if_pos (.inl a)]; rfl
    · by_cases b : need > T
      · rw [decide_eq_false a, decide_eq_true b, if_pos (.inr (by omega))]; rfl
      · rw [decide_eq_false a, decide_eq_false b, if_neg (by omega), show IntKind.wrap .i64 (need * 2) = need * 2 from by rw [IntKind.wrap_i64]; omega]
        by_cases c : 2 * need ≤ T
        · rw [if_pos c, decide_eq_true (by omega)]; rfl
        · rw [if_neg c, decide_eq_false (by omega)]; rfl
  · have e : (wE (wsOf m g) != 0) = true := by simpa using h
    rw [e, if_pos h]
    rfl
end Go.Proofs.Ytbmbnbhedalcnab
