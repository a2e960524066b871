/- What majorities answer, by symbolic runs. -/
import Derived.Test.YtpkckgdpdnkbeaaXd
namespace Go.Proofs.Ytpkckgdpdnkbeaa
open Go.RowKit
theorem run_bad1 (x : Int) : evV K5 noL Try.f64 [.int .i64 x] [] = tst (decide (x < (0 : Int))) (Out.done AE.ret { slots := [some (Value.bool true)], heap := [] }) (Out.done AE.ret { slots := [some (Value.bool (decide (x > (100 : Int))))], heap := [] }) := by kernel_rfl
theorem run_ixB (m k : Nat) (g : Nat → List Value) : ev K6 noL (bodyOf Try.f79 0) ⟨mkSlots 19 [0, 1, 6, 7, 8] [.slice (some ⟨0, 0, some 0⟩) m m, .func (.func 64) ⟨[]⟩ ⟨[]⟩, .slice (some ⟨0, 0, some 0⟩) m m, .int .i64 m, .int .i64 k], [.recs wtK m g]⟩ (pkG 19 keepIx 1) = tst (decide ((↑k : Int) < (↑m : Int))) (Out.ask ((0 : Int) ≤ (↑k : Int) ∧ (↑k : Int) < (↑m : Int)) (Out.ask (k < m) (tst (wBad (intV (hdV (g k)))) (Out.done AE.ret { slots := [some (Value.int IntKind.i64 (↑k : Int))], heap := [AObj.recs wtK m g] }) (Out.done AE.normal { slots := [some (Value.slice (some { block := (0 : Nat), off := (0 : Nat), spot := some (0 : Nat) }) m m), some (Value.func (Fn.func (64 : FuncId)) { toList := [] } { toList := [] }), some (Value.slice (some { block := (0 : Nat), off := (0 : Nat), spot := some (0 : Nat) }) m m), some (Value.int IntKind.i64 (↑m : Int)), some (Value.int IntKind.i64 (IntKind.wrap IntKind.i64 ((↑k : Int) + (1 : Int))))], heap := [AObj.recs wtK m g] })))) (Out.done (AE.exit (0 : Nat)) { slots := [], heap := [AObj.recs wtK m g] }) := by kernel_rfl
theorem run_ix (m : Nat) (g : Nat → List Value) : evV K6 lIx Try.f79 [.slice (some ⟨0, 0, some 0⟩) m m, .func (.func 64) ⟨[]⟩ ⟨[]⟩] [.recs wtK m g] = Out.ask (m = m ∧ m = m ∧ m = m ∧ m = m ∧ (↑m : Int) = (↑m : Int) ∧ (0 : Int) = (0 : Int) ∧ m ≤ (140737488355328 : Nat)) (tst (anyB (wsOf m g)) (Out.done AE.ret { slots := [some (Value.int IntKind.i64 (fIx (wsOf m g) (0 : Nat)))], heap := [] }) (Out.done AE.ret { slots := [some (Value.int IntKind.i64 (-1 : Int))], heap := [] })) := by kernel_rfl
theorem run_totB (m k : Nat) (z : Int) (g : Nat → List Value) : ev K6 noL (bodyOf Try.f65 0) ⟨mkSlots 17 [3, 6, 7, 8] [.int .i64 z, .slice (some ⟨0, 0, some 0⟩) m m, .int .i64 m, .int .i64 k], [.recs wtK m g]⟩ (pkG 17 keepTot 1) = tst (decide ((↑k : Int) < (↑m : Int))) (Out.ask ((0 : Int) ≤ (↑k : Int) ∧ (↑k : Int) < (↑m : Int)) (Out.ask (k < m) (Out.done AE.normal { slots := [some (Value.int IntKind.i64 (IntKind.wrap IntKind.i64 (z + intV (hdV (g k))))), some (Value.slice (some { block := (0 : Nat), off := (0 : Nat), spot := some (0 : Nat) }) m m), some (Value.int IntKind.i64 (↑m : Int)), some (Value.int IntKind.i64 (IntKind.wrap IntKind.i64 ((↑k : Int) + (1 : Int))))], heap := [AObj.recs wtK m g] }))) (Out.done (AE.exit (0 : Nat)) { slots := [some (Value.int IntKind.i64 z)], heap := [AObj.recs wtK m g] }) := by kernel_rfl
theorem run_tot (m : Nat) (g : Nat → List Value) : evV K6 lTot Try.f65 [.slice (some ⟨0, 0, some 0⟩) m m] [.recs wtK m g] = Out.ask ((0 : Int) = (0 : Int) ∧ m = m ∧ m = m ∧ (↑m : Int) = (↑m : Int) ∧ (0 : Int) = (0 : Int) ∧ m ≤ (12 : Nat) ∧ anyB (wsOf m g) = false) (Out.done AE.ret { slots := [some (Value.int IntKind.i64 (totK (wsOf m g) m))], heap := [] }) := by kernel_rfl
theorem run_cont (m : Nat) (g : Nat → List Value) : evV K7 noL Try.f63 [.slice (some ⟨0, 0, some 0⟩) m m, .func (.func 64) ⟨[]⟩ ⟨[]⟩] [.recs wtK m g] = Out.ask (m ≤ m ∧ m ≤ (140737488355328 : Nat)) (Out.done AE.ret { slots := [some (Value.bool (decide (fIx (wsOf m fun j => g (j + (0 : Nat))) (0 : Nat) ≥ (0 : Int))))], heap := [] }) := by kernel_rfl
theorem run_qcheck (m : Nat) (need : Int) (g : Nat → List Value) : evV K10 noL Try.f22 [.slice (some ⟨0, 0, some 0⟩) m m, .int .i64 need] [.recs wtK m g] = tst ((↑m : Int) == (0 : Int)) (Out.done AE.ret { slots := [some (Value.int IntKind.i64 (8 : Int))], heap := [] }) (tst (decide ((↑m : Int) > (12 : Int))) (Out.done AE.ret { slots := [some (Value.int IntKind.i64 (2 : Int))], heap := [] }) (Out.ask (m ≤ m ∧ m ≤ (140737488355328 : Nat)) (tst (anyB (wsOf m fun j => g j)) (Out.done AE.ret { slots := [some (Value.int IntKind.i64 (3 : Int))], heap := [] }) (Out.ask (m ≤ m ∧ m ≤ (140737488355328 : Nat)) (Out.ask (aTotal [CA.rows wtK m fun j => g j]) (tst (decide (need < (1 : Int))) (Out.done AE.ret { slots := [some (Value.int IntKind.i64 (3 : Int))], heap := [] }) (tst (decide (need > totK (wsOf m fun j => g (j + (0 : Nat))) m)) (Out.done AE.ret { slots := [some (Value.int IntKind.i64 (3 : Int))], heap := [] }) (tst (decide (IntKind.wrap IntKind.i64 ((2 : Int) * need) ≤ totK (wsOf m fun j => g (j + (0 : Nat))) m)) (Out.done AE.ret { slots := [some (Value.int IntKind.i64 (4 : Int))], heap := [] }) (Out.done AE.ret { slots := [some (Value.int IntKind.i64 (0 : Int))], heap := [] }))))))))) := by kernel_rfl

theorem q_bad1 : QOk K5.P 64 (listC [vK] gBad1) := list_q K5_ok Try.func64 rfl rfl (no_loops rfl) fun cas r _hb _hk h => by
  unfold gBad1 at h
  split at h
  · rename_i x
    cases h
    refine ⟨rfl, ?_⟩
    show (evV K5 noL _ [.int .i64 x] []).sat _
    rw [run_bad1]
    refine sat_tst (fun h => ?_) (fun h => ?_)
    · show [some (Value.bool _)] = [some (Value.bool _)]
      have := of_decide_eq_true h
      rw [show wBad x = true from decide_eq_true (.inl this)]
    · show [some (Value.bool _)] = [some (Value.bool _)]
      have := of_decide_eq_false h
      unfold wBad
      congr 3
      simp only [decide_eq_decide]
      omega
  · cases h
theorem K6_ok : K6.Ok := K5_ok.addQ q_bad1
theorem anyB_at {L : List Int} {j : Nat} (hj : j < L.length) (h : wBad (L[j]?.getD 0) = true) : anyB L = true := by
  unfold anyB
  rw [List.any_eq_true]
  exact ⟨L[j], List.getElem_mem hj, by rw [List.getElem?_eq_getElem hj] at h; exact h⟩
theorem anyB_all {L : List Int} (h : ∀ i, i < L.length → wBad (L[i]?.getD 0) = false) : anyB L = false := by
  unfold anyB
  rw [List.any_eq_false]
  intro x hx
  obtain ⟨i, hi⟩ := List.mem_iff_getElem?.1 hx
  have := h i (List.getElem?_eq_some_iff.1 hi).1
  rw [hi] at this
  simpa using this
theorem loop_ix : LOk K6.P (bodyOf Try.f79 0) (lspec 19 keepIx 1 gIxL) := lspec_ok K6_ok (L := noL) (fun c' _ F h => by cases h) fun Φ vs H k hm0 h => by
  unfold gIxL at h
  split at h
  · rename_i len0 c0 f len m n i sh m0 g
    split at h
    · rename_i hsh
      rw [Bool.and_eq_true, Nat.beq_eq] at hsh
      obtain ⟨hsh, rfl⟩ := hsh
      have := shEq_eq hsh
      subst this
      obtain ⟨⟨rfl, rfl, rfl, rfl, rfl, rfl, hb⟩, h⟩ := h
      refine ⟨{j : Nat // j ≤ m ∧ ∀ i, i < j → wBad ((wsOf m g)[i]?.getD 0) = false}, fun i => [.slice (some ⟨0, 0, some 0⟩) m m, .func (.func 64) ⟨[]⟩ ⟨[]⟩, .slice (some ⟨0, 0, some 0⟩) m m, .int .i64 m, .int .i64 i.1], fun _ => [.recs wtK m g], fun i => m - i.1, ⟨0, by omega, fun i hi => by omega⟩, rfl, rfl, ?_⟩
      rintro ⟨j, hj, hz⟩
      show (ev K6 noL _ ⟨mkSlots 19 [0, 1, 6, 7, 8] [.slice (some ⟨0, 0, some 0⟩) m m, .func (.func 64) ⟨[]⟩ ⟨[]⟩, .slice (some ⟨0, 0, some 0⟩) m m, .int .i64 m, .int .i64 j], [.recs wtK m g]⟩ (pkG 19 keepIx 1)).sat _
      rw [run_ixB]
      refine sat_tst (fun ht => ?_) (fun ht => ?_)
      · have hlt : j < m := by have := of_decide_eq_true ht; omega
        have hat := ws_at g hlt
        refine sat_ask ⟨by omega, by omega⟩ (sat_ask hlt (sat_tst (fun hc => ?_) (fun hc => ?_)))
        · rw [← hat] at hc
          rw [anyB_at (by rw [ws_len]; exact hlt) hc, fIx_at _ 0 j (by rw [ws_len]; exact hlt) hz hc, Nat.zero_add] at h
          exact ⟨_, rfl, h⟩
        · refine ⟨⟨j + 1, by omega, fun i hi => ?_⟩, ?_, rfl, by show m - (j + 1) < m - j; omega⟩
          · by_cases e : i = j
            · subst e; rw [hat]; exact hc
            · exact hz i (by omega)
          · show [some _, some _, some _, some _, some (Value.int .i64 _)] = [some _, some _, some _, some _, some (Value.int .i64 _)]
            rw [wrap_at hlt hb]
      · have hge : j = m := by have := of_decide_eq_false ht; omega
        subst hge
        rw [anyB_all (fun i hi => hz i (by rw [ws_len] at hi; exact hi))] at h
        exact ⟨[], rfl, h⟩
    · exact h.elim
  · exact h.elim
theorem loop_tot : LOk K6.P (bodyOf Try.f65 0) (lspec 17 keepTot 1 gTotL) := lspec_ok K6_ok (L := noL) (fun c' _ F h => by cases h) fun Φ vs H k hm0 h => by
  unfold gTotL at h
  split at h
  · rename_i z len m n i sh m0 g
    split at h
    · rename_i hsh
      have := shEq_eq hsh
      subst this
      obtain ⟨⟨rfl, rfl, rfl, rfl, rfl, hb, hany⟩, h⟩ := h
      refine ⟨{j : Nat // j ≤ m}, fun i => [.int .i64 (totK (wsOf m g) i.1), .slice (some ⟨0, 0, some 0⟩) m m, .int .i64 m, .int .i64 i.1], fun _ => [.recs wtK m g], fun i => m - i.1, ⟨0, by omega⟩, rfl, rfl, ?_⟩
      rintro ⟨j, hj⟩
      show (ev K6 noL _ ⟨mkSlots 17 [3, 6, 7, 8] [.int .i64 (totK (wsOf m g) j), .slice (some ⟨0, 0, some 0⟩) m m, .int .i64 m, .int .i64 j], [.recs wtK m g]⟩ (pkG 17 keepTot 1)).sat _
      rw [run_totB]
      refine sat_tst (fun ht => ?_) (fun ht => ?_)
      · have hlt : j < m := by have := of_decide_eq_true ht; omega
        have hat := ws_at g hlt
        refine sat_ask ⟨by omega, by omega⟩ (sat_ask hlt ?_)
        refine ⟨⟨j + 1, by omega⟩, ?_, rfl, by show m - (j + 1) < m - j; omega⟩
        show [some (Value.int .i64 _), some _, some _, some (Value.int .i64 _)] = [some (Value.int .i64 (totK (wsOf m g) (j + 1))), some _, some _, some (Value.int .i64 _)]
        have hle := tot_le hany (j + 1) (by rw [ws_len]; omega)
        rw [wrap_at hlt (by omega), ← hat]
        have e : IntKind.wrap IntKind.i64 (totK (wsOf m g) j + (wsOf m g)[j]?.getD 0) = totK (wsOf m g) (j + 1) := by
          show IntKind.wrap IntKind.i64 (totK (wsOf m g) (j + 1)) = _
          rw [IntKind.wrap_i64]
          omega
        rw [e]
      · have hge : j = m := by have := of_decide_eq_false ht; omega
        subst hge
        exact ⟨_, rfl, h⟩
    · exact h.elim
  · exact h.elim
theorem lIx_ok : ∀ F, lIx (key (bodyOf Try.f79 0)) = some F → LOk K6.P (bodyOf Try.f79 0) F := fun F h => by
  have hk : lIx (key (bodyOf Try.f79 0)) = some (lspec 19 keepIx 1 gIxL) := by kernel_rfl
  rw [hk] at h
  cases h
  exact loop_ix
theorem lTot_ok : ∀ F, lTot (key (bodyOf Try.f65 0)) = some F → LOk K6.P (bodyOf Try.f65 0) F := fun F h => by
  have hk : lTot (key (bodyOf Try.f65 0)) = some (lspec 17 keepTot 1 gTotL) := by kernel_rfl
  rw [hk] at h
  cases h
  exact loop_tot
theorem q_index : QOk K6.P 79 (listC [.one (.rows wtK), vK] gIndex) := list_q K6_ok Try.func79 rfl rfl (one_loop (by kernel_rfl) lIx_ok) fun cas r hb hk h => by
  unfold gIndex at h
  split at h
  · rename_i sh m g f
    obtain ⟨rfl, -⟩ := hk
    obtain ⟨hb, -⟩ := hb
    split at h
    · rename_i hf
      rw [Nat.beq_eq] at hf
      subst hf
      cases h
      refine ⟨rfl, ?_⟩
      show (evV K6 lIx _ [.slice (some ⟨0, 0, some 0⟩) m m, .func (.func 64) ⟨[]⟩ ⟨[]⟩] [.recs wtK m g]).sat _
      rw [run_ix]
      refine sat_ask ⟨rfl, rfl, rfl, rfl, rfl, rfl, hb⟩ (sat_tst (fun _ => rfl) fun h => ret_i ?_)
      refine (fIx_all _ 0 fun i hi => ?_).symm
      cases e : wBad ((wsOf m g)[i]?.getD 0) with
      | false => rfl
      | true => rw [anyB_at hi e] at h; cases h
    · cases h
  · cases h
theorem q_total : QOk K6.P 65 (listA [.one (.rows wtK)] aTotal gTotal) := list_qA K6_ok Try.func65 rfl rfl (one_loop (by kernel_rfl) lTot_ok) fun cas r hb hk ha h => by
  unfold gTotal at h
  split at h
  · rename_i sh m g
    obtain ⟨rfl, -⟩ := hk
    cases h
    refine ⟨rfl, ?_⟩
    show (evV K6 lTot _ [.slice (some ⟨0, 0, some 0⟩) m m] [.recs wtK m g]).sat _
    rw [run_tot]
    exact sat_ask ⟨rfl, rfl, rfl, rfl, rfl, ha.1, ha.2⟩ rfl
  · cases h
theorem q_total' : QOk (K6.addQ 79 (listC [.one (.rows wtK), vK] gIndex)).P 65 (listA [.one (.rows wtK)] aTotal gTotal) := q_total
theorem K7_ok : K7.Ok := (K6_ok.addQ q_index).addQ q_total'
theorem q_contains : QOk K7.P 63 (listC [.one (.rows wtK), vK] gContains) := list_q K7_ok Try.func63 rfl rfl (no_loops rfl) fun cas r hb hk h => by
  unfold gContains at h
  split at h
  · rename_i sh m g f
    obtain ⟨rfl, -⟩ := hk
    obtain ⟨hb, -⟩ := hb
    split at h
    · rename_i hf
      rw [Nat.beq_eq] at hf
      subst hf
      cases h
      refine ⟨rfl, ?_⟩
      show (evV K7 noL _ [.slice (some ⟨0, 0, some 0⟩) m m, .func (.func 64) ⟨[]⟩ ⟨[]⟩] [.recs wtK m g]).sat _
      rw [run_cont]
      refine sat_ask ⟨Nat.le_refl _, hb⟩ ?_
      show [some (Value.bool _)] = [some (Value.bool _)]
      rw [← fIx_any (wsOf m g) 0]
      rfl
    · cases h
  · cases h
theorem K8_ok : K8.Ok := K7_ok.addQ q_contains
theorem m_check1 : MOk K8.P 44 (inl K8 noL Try.f44) := inl_ok K8_ok Try.func44 rfl rfl (no_loops rfl)
theorem m_sum1 : MOk (K8.addM 44 (inl K8 noL Try.f44)).P 62 (inl K8 noL Try.f62) := inl_ok K8_ok Try.func62 rfl rfl (no_loops rfl)
theorem K9_ok : K9.Ok := (K8_ok.addM m_check1).addM m_sum1
theorem m_check : MOk K9.P 43 (inl K9 noL Try.f43) := inl_ok K9_ok Try.func43 rfl rfl (no_loops rfl)
theorem K10_ok : K10.Ok := K9_ok.addM m_check
theorem wrap_small {x : Int} (h1 : -9223372036854775808 ≤ x) (h2 : x < 9223372036854775808) : IntKind.wrap IntKind.i64 x = x := by
  rw [IntKind.wrap_i64]
  omega
theorem wE_good {L : List Int} (h0 : L.length ≠ 0) (h1 : ¬ 12 < L.length) (h2 : anyB L = false) : wE L = 0 := by
  unfold wE
  rw [if_neg h0, if_neg h1, if_neg (by rw [h2]; decide)]
theorem q_qcheck : QOk K10.P 22 (listC [.one (.rows wtK), vK] gQCheck) := list_q K10_ok Try.func22 rfl rfl (no_loops rfl) fun cas r hb hk h => by
  unfold gQCheck at h
  split at h
  · rename_i sh m g need
    obtain ⟨rfl, -⟩ := hk
    obtain ⟨hb, -⟩ := hb
    cases h
    refine ⟨rfl, ?_⟩
    show (evV K10 noL _ [.slice (some ⟨0, 0, some 0⟩) m m, .int .i64 need] [.recs wtK m g]).sat _
    rw [run_qcheck]
    have hl := ws_len m g
    refine sat_tst (fun h => ret_i ?_) fun h0 => sat_tst (fun h => ret_i ?_) fun h1 => sat_ask ⟨Nat.le_refl _, hb⟩ (sat_tst (fun h => ret_i ?_) fun h2 => sat_ask ⟨Nat.le_refl _, hb⟩ (sat_ask ⟨by have := of_decide_eq_false h1; omega, h2⟩ ?_))
    · have e : m = 0 := by simpa using h
      have : wE (wsOf m g) = 8 := by unfold wE; rw [if_pos (by omega)]
      unfold qE
      rw [this, if_pos (by decide)]
    · have e : m ≠ 0 := by simpa using h0
      have h := of_decide_eq_true h
      have : wE (wsOf m g) = 2 := by unfold wE; rw [if_neg (by omega), if_pos (by omega)]
      unfold qE
      rw [this, if_pos (by decide)]
    · have e : m ≠ 0 := by simpa using h0
      have h1 := of_decide_eq_false h1
      have : wE (wsOf m g) = 3 := by unfold wE; rw [if_neg (by omega), if_neg (by omega), if_pos h]
      unfold qE
      rw [this, if_pos (by decide)]
    · have e : m ≠ 0 := by simpa using h0
      have h1 := of_decide_eq_false h1
      have h2 : anyB (wsOf m g) = false := h2
      have hw : wE (wsOf m g) = 0 := wE_good (by omega) (by omega) h2
      have ht := tot_le h2 m (by omega)
      have hq : qE (wsOf m g) need = if need < 1 ∨ totK (wsOf m g) m < need then 3 else if 2 * need ≤ totK (wsOf m g) m then 4 else 0 := by
        unfold qE
        rw [hw, if_neg (by decide), hl]
      show (tst _ _ (tst (decide (need > totK (wsOf m g) m)) _ (tst (decide (_ ≤ totK (wsOf m g) m)) _ _))).sat _
      refine sat_tst (fun h => ret_i ?_) fun h3 => sat_tst (fun h => ret_i ?_) fun h4 => ?_
      · rw [hq, if_pos (.inl (of_decide_eq_true h))]
      · rw [hq, if_pos (.inr (of_decide_eq_true h))]
      · have h3 := of_decide_eq_false h3
        have h4 := of_decide_eq_false h4
        rw [wrap_small (by omega) (by omega)]
        refine sat_tst (fun h => ret_i ?_) fun h => ret_i ?_
        · rw [hq, if_neg (by omega), if_pos (of_decide_eq_true h)]
        · rw [hq, if_neg (by omega), if_neg (of_decide_eq_false h)]
  · cases h
end Go.Proofs.Ytpkckgdpdnkbeaa
