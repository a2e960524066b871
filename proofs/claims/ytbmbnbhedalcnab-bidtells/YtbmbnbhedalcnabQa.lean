/- Sums and majorities, by the reference. -/
import Derived.Test.YtbmbnbhedalcnabXy
namespace Go.Proofs.Ytbmbnbhedalcnab
open Go.RowKit
-- @file na.out
theorem run_inset (s : Int) (n : Int) : evV K25 noL Try.f38 [.int .u64 s, .int .i64 n] [] = Out.ask ((0 : Int) ≤ n) (Out.ask ((2 : Int) ≠ (0 : Int) ∧ IntKind.u64 = IntKind.u64) (Out.done AE.ret { slots := [some (Value.bool (Int.tmod (shrV IntKind.u64 s n) (2 : Int) == (1 : Int)))], heap := [] })) := by kernel_rfl
def x_inset (s : Int) (n : Int) : Bool := (Int.tmod (shrV IntKind.u64 s n) (2 : Int) == (1 : Int))
def g_inset : List CA → Option Value
  | [.val (.int .u64 s), .val (.int .i64 n)] => some (.bool (x_inset s n))
  | _ => none
def a_inset (l : List CA) : Prop :=
  match nthL l 1 with
  | some (.val (.int _ n)) => 0 ≤ n
  | _ => False
theorem q_inset : QOk K25.P 38 (listA [.one .val, .one .val] a_inset g_inset) := list_qA K25_ok Try.func38 rfl rfl (no_loops rfl) fun cas r hb hk ha h => by
  unfold g_inset at h
  split at h
  · rename_i s n
    have ha : 0 ≤ n := ha
    cases h
    refine ⟨rfl, ?_⟩
    show (evV K25 noL _ [.int .u64 s, .int .i64 n] []).sat _
    rw [run_inset]
    exact sat_ask (by first | omega | exact ⟨Nat.le_refl _, by assumption⟩ | exact ⟨rfl, rfl⟩ | simp_all) (sat_ask (by first | omega | exact ⟨Nat.le_refl _, by assumption⟩ | exact ⟨rfl, rfl⟩ | simp_all) (leaf_v rfl))
  · cases h
-- @end
-- @file na.chain
noncomputable def K28 : Kn := K25.addQ 38 (listA [.one .val, .one .val] a_inset g_inset)
theorem K28_ok : K28.Ok := K25_ok.addQ q_inset
-- @end
def keepWC : AE → List Nat
  | .normal => [0, 4, 5]
  | .exit _ => [4]
  | .ret => [2, 3]
def keepSO : AE → List Nat
  | .normal => [0, 1, 5, 6]
  | .exit _ => [5]
  | .ret => []
/-- what the weights come to, if they are right -/
def rwV (L : List Int) : Int := if wE L = 0 then totK L L.length else 0
/-- what those of a set among the first k weigh, by the reference -/
def smI (L : List Int) (s : Int) : Nat → Int
  | 0 => 0
  | k + 1 => bif x_inset s (k : Int) then smI L s k + L[k]?.getD 0 else smI L s k
theorem smI_le {L : List Int} (h : anyB L = false) (s : Int) : ∀ k, k ≤ L.length → 0 ≤ smI L s k ∧ smI L s k ≤ 100 * k
  | 0, _ => by simp [smI]
  | k + 1, hk => by
    have ih := smI_le h s k (by omega)
    have hg : wBad (L[k]?.getD 0) = false := by
      have hm : L[k]?.getD 0 ∈ L := by rw [List.getElem?_eq_getElem (by omega)]; exact List.getElem_mem _
      unfold anyB at h
      rw [List.any_eq_false] at h
      simpa using h _ hm
    have : ¬ (L[k]?.getD 0 < 0 ∨ 100 < L[k]?.getD 0) := of_decide_eq_false hg
    unfold smI
    cases x_inset s (k : Int) <;> simp only [cond_true, cond_false] <;> omega
def gWCL : List Value → List AObj → (AE → List Value → List AObj → Out) → Out
  | [.slice (some ⟨0, 0, some 0⟩) l c, .int .i64 a, .int .i64 i], [.recs sh m g], k => (match shEq sh wtK with
    | true => .ask (l = m ∧ c = m ∧ a = 0 ∧ i = 0 ∧ m ≤ 12) (tst (anyB (wsOf m g)) (k .ret [.int .i64 0, .int .i64 3] [.recs sh m g]) (k (.exit 0) [.int .i64 (totK (wsOf m g) m)] [.recs sh m g]))
    | false => .bad)
  | _, _, _ => .bad
def lWC : Nat → Option LCon := oneL 7 (lspec 37 keepWC 1 gWCL)
def gSOL : List Value → List AObj → (AE → List Value → List AObj → Out) → Out
  | [.slice (some ⟨0, 0, some 0⟩) l c, .int .u64 s, .int .i64 a, .int .i64 i], [.recs sh m g], k => (match shEq sh wtK with
    | true => .ask (l = m ∧ c = m ∧ a = 0 ∧ i = 0 ∧ m ≤ 12 ∧ anyB (wsOf m g) = false) (k (.exit 0) [.int .i64 (smI (wsOf m g) s m)] [.recs sh m g])
    | false => .bad)
  | _, _, _ => .bad
def lSO : Nat → Option LCon := oneL 3 (lspec 23 keepSO 1 gSOL)
def gWC : List CA → Option Value
  | [.rows _ m g] => some (.tuple ⟨[.int .i64 (rwV (wsOf m g)), .int .i64 (wE (wsOf m g))]⟩)
  | _ => none
def gSO : List CA → Option Value
  | [.rows _ m g, .val (.int .u64 s)] => some (.int .i64 (smI (wsOf m g) s m))
  | _ => none
def aSO : List CA → Prop
  | [.rows _ m g, .val (.int .u64 _)] => m ≤ 12 ∧ anyB (wsOf m g) = false
  | _ => False
theorem run_wcB (m k : Nat) (g : Nat → List Value) (a : Int) : ev K28 noL (bodyOf Try.f50 0) ⟨mkSlots 37 [0, 4, 5] [.slice (some ⟨0, 0, some 0⟩) m m, .int .i64 a, .int .i64 k], [.recs wtK m g]⟩ (pkG 37 keepWC 1) =
    tst (decide ((k : Int) < (m : Int))) (.ask ((0 : Int) ≤ (k : Int) ∧ (k : Int) < (m : Int)) (.ask (k < m) (tst (decide (intV (hdV (g k)) < 0)) (.done .ret ⟨someL [.int .i64 0, .int .i64 3], [.recs wtK m g]⟩) (.ask ((0 : Int) ≤ (k : Int) ∧ (k : Int) < (m : Int)) (.ask (k < m) (tst (decide (intV (hdV (g k)) > 100)) (.done .ret ⟨someL [.int .i64 0, .int .i64 3], [.recs wtK m g]⟩)
      (.ask ((0 : Int) ≤ (k : Int) ∧ (k : Int) < (m : Int)) (.ask (k < m) (.done .normal ⟨someL [.slice (some ⟨0, 0, some 0⟩) m m, .int .i64 (IntKind.wrap .i64 (a + intV (hdV (g k)))), .int .i64 (IntKind.wrap .i64 ((k : Int) + 1))], [.recs wtK m g]⟩)))))))))
      (.done (.exit 0) ⟨someL [.int .i64 a], [.recs wtK m g]⟩) := by kernel_rfl
theorem run_wc (m : Nat) (g : Nat → List Value) : evV K28 lWC Try.f50 [.slice (some ⟨0, 0, some 0⟩) m m] [.recs wtK m g] =
    tst ((m : Int) == 0) (.done .ret ⟨[some (.tuple ⟨[.int .i64 0, .int .i64 8]⟩)], []⟩) (tst (decide ((m : Int) > 12)) (.done .ret ⟨[some (.tuple ⟨[.int .i64 0, .int .i64 2]⟩)], []⟩)
      (.ask (m = m ∧ m = m ∧ (0 : Int) = 0 ∧ (0 : Int) = 0 ∧ m ≤ 12) (tst (anyB (wsOf m g)) (.done .ret ⟨[some (.tuple ⟨[.int .i64 0, .int .i64 3]⟩)], []⟩) (.done .ret ⟨[some (.tuple ⟨[.int .i64 (totK (wsOf m g) m), .int .i64 0]⟩)], []⟩)))) := by kernel_rfl
theorem run_soB (m k : Nat) (g : Nat → List Value) (a s : Int) : ev K28 noL (bodyOf Try.f40 0) ⟨mkSlots 23 [0, 1, 5, 6] [.slice (some ⟨0, 0, some 0⟩) m m, .int .u64 s, .int .i64 a, .int .i64 k], [.recs wtK m g]⟩ (pkG 23 keepSO 1) =
    tst (decide ((k : Int) < (m : Int))) (.ask (a_inset [.val (.int .u64 s), .val (.int .i64 k)]) (tst (x_inset s k) (.ask ((0 : Int) ≤ (k : Int) ∧ (k : Int) < (m : Int)) (.ask (k < m) (.done .normal ⟨someL [.slice (some ⟨0, 0, some 0⟩) m m, .int .u64 s, .int .i64 (IntKind.wrap .i64 (a + intV (hdV (g k)))), .int .i64 (IntKind.wrap .i64 ((k : Int) + 1))], [.recs wtK m g]⟩)))
      (.done .normal ⟨someL [.slice (some ⟨0, 0, some 0⟩) m m, .int .u64 s, .int .i64 a, .int .i64 (IntKind.wrap .i64 ((k : Int) + 1))], [.recs wtK m g]⟩)))
      (.done (.exit 0) ⟨someL [.int .i64 a], [.recs wtK m g]⟩) := by kernel_rfl
theorem run_so (m : Nat) (g : Nat → List Value) (s : Int) : evV K28 lSO Try.f40 [.slice (some ⟨0, 0, some 0⟩) m m, .int .u64 s] [.recs wtK m g] =
    .ask (m = m ∧ m = m ∧ (0 : Int) = 0 ∧ (0 : Int) = 0 ∧ m ≤ 12 ∧ anyB (wsOf m g) = false) (.done .ret ⟨[some (.int .i64 (smI (wsOf m g) s m))], []⟩) := by kernel_rfl
theorem any_at {L : List Int} {j : Nat} (hj : j < L.length) (h : wBad (L[j]?.getD 0) = true) : anyB L = true := by
  unfold anyB
  rw [List.any_eq_true]
  exact ⟨_, by rw [List.getElem?_eq_getElem hj]; exact List.getElem_mem _, h⟩
theorem any_no {L : List Int} (h : ∀ i, i < L.length → wBad (L[i]?.getD 0) = false) : anyB L = false := by
  unfold anyB
  rw [List.any_eq_false]
  intro x hx
  obtain ⟨i, hi⟩ := List.mem_iff_getElem?.1 hx
  have := h i (List.getElem?_eq_some_iff.1 hi).1
  rw [hi] at this
  rw [show wBad x = false from this]
  decide
theorem tot_to {L : List Int} : ∀ {k : Nat}, k ≤ L.length → (∀ i, i < k → wBad (L[i]?.getD 0) = false) → 0 ≤ totK L k ∧ totK L k ≤ 100 * k
  | 0, _, _ => by simp [totK]
  | k + 1, hk, h => by
    have ih := tot_to (L := L) (k := k) (by omega) fun i hi => h i (by omega)
    have : ¬ (L[k]?.getD 0 < 0 ∨ 100 < L[k]?.getD 0) := of_decide_eq_false (h k (by omega))
    unfold totK
    omega
theorem loop_wc : LOk K28.P (bodyOf Try.f50 0) (lspec 37 keepWC 1 gWCL) := lspec_ok K28_ok (L := noL) (fun c' _ F h => by cases h) fun Φ vs H kk hm0 h => by
  unfold gWCL at h
  split at h
  · rename_i l c a i sh m g
    split at h
    · rename_i hsh
      have := shEq_eq hsh
      subst this
      obtain ⟨⟨rfl, rfl, rfl, rfl, hb⟩, h⟩ := h
      refine ⟨{j : Nat // j ≤ c ∧ ∀ i, i < j → wBad ((wsOf c g)[i]?.getD 0) = false}, fun n => [.slice (some ⟨0, 0, some 0⟩) c c, .int .i64 (totK (wsOf c g) n.1), .int .i64 n.1], fun _ => [.recs wtK c g], fun n => c - n.1, ⟨0, by omega, fun i hi => by omega⟩, rfl, rfl, ?_⟩
      rintro ⟨j, hj, hz⟩
      show (ev K28 noL _ ⟨mkSlots 37 [0, 4, 5] [.slice (some ⟨0, 0, some 0⟩) c c, .int .i64 (totK (wsOf c g) j), .int .i64 j], [.recs wtK c g]⟩ (pkG 37 keepWC 1)).sat _
      rw [run_wcB]
      refine sat_tst (fun ht => ?_) (fun ht => ?_)
      · have hlt : j < c := by have := of_decide_eq_true ht; omega
        have hr : (0 : Int) ≤ (j : Int) ∧ (j : Int) < (c : Int) := ⟨by omega, by omega⟩
        have bad : wBad (intV (hdV (g j))) = true → anyB (wsOf c g) = true := fun hw => any_at (j := j) (by rw [ws_len]; exact hlt) (by rw [ws_at g hlt]; exact hw)
        refine sat_ask hr (sat_ask hlt (sat_tst (fun h1 => ?_) (fun h1 => sat_ask hr (sat_ask hlt (sat_tst (fun h2 => ?_) (fun h2 => sat_ask hr (sat_ask hlt ?_)))))))
        · rw [bad (decide_eq_true (.inl (of_decide_eq_true h1)))] at h
          exact ⟨_, rfl, h⟩
        · rw [bad (decide_eq_true (.inr (of_decide_eq_true h2)))] at h
          exact ⟨_, rfl, h⟩
        · have h1 := of_decide_eq_false h1
          have h2 := of_decide_eq_false h2
          have hw : wBad (intV (hdV (g j))) = false := decide_eq_false (by omega)
          obtain ⟨t1, t2⟩ := tot_to (L := wsOf c g) (k := j) (by rw [ws_len]; omega) hz
          refine ⟨⟨j + 1, by omega, fun i hi => ?_⟩, ?_, rfl, by show c - (j + 1) < c - j; omega⟩
          · by_cases e : i = j
            · subst e; rw [ws_at g hlt]; exact hw
            · exact hz i (by omega)
          · show [some _, some (Value.int .i64 _), some (Value.int .i64 _)] = [some _, some (Value.int .i64 (totK (wsOf c g) j + (wsOf c g)[j]?.getD 0)), some (Value.int .i64 _)]
            rw [wrap_at hlt (by omega), ws_at g hlt, show IntKind.wrap .i64 (totK (wsOf c g) j + intV (hdV (g j))) = totK (wsOf c g) j + intV (hdV (g j)) from by rw [IntKind.wrap_i64]; omega]
      · have hge : j = c := by have := of_decide_eq_false ht; omega
        subst hge
        rw [any_no (L := wsOf j g) fun i hi => hz i (by rw [ws_len] at hi; exact hi)] at h
        exact ⟨_, rfl, h⟩
    · exact h.elim
  · exact h.elim
theorem lWC_ok : ∀ F, lWC (key (bodyOf Try.f50 0)) = some F → LOk K28.P (bodyOf Try.f50 0) F := fun F h => by
  have hk : lWC (key (bodyOf Try.f50 0)) = some (lspec 37 keepWC 1 gWCL) := by kernel_rfl
  rw [hk] at h
  cases h
  exact loop_wc
theorem q_wc : QOk K28.P 50 (listC [.one (.rows wtK)] gWC) := list_q K28_ok Try.func50 rfl rfl (one_loop (by kernel_rfl) lWC_ok) fun cas r hb hk h => by
  unfold gWC at h
  split at h
  · rename_i sh m g
    obtain ⟨rfl, -⟩ := hk
    cases h
    refine ⟨rfl, ?_⟩
    show (evV K28 lWC _ [.slice (some ⟨0, 0, some 0⟩) m m] [.recs wtK m g]).sat _
    rw [run_wc]
    unfold rwV wE
    rw [ws_len]
    refine sat_tst (fun h1 => leaf_v ?_) (fun h1 => sat_tst (fun h2 => leaf_v ?_) fun h2 => ?_)
    · have : m = 0 := by have : (m : Int) = 0 := eq_of_beq h1; omega
      rw [if_pos this]; rfl
    · have e1 : m ≠ 0 := fun e => by rw [e] at h1; cases h1
      have e2 : 12 < m := by have := of_decide_eq_true h2; omega
      rw [if_neg e1, if_pos e2]; rfl
    · have e1 : m ≠ 0 := fun e => by rw [e] at h1; cases h1
      have e2 : ¬ 12 < m := by have := of_decide_eq_false h2; omega
      rw [if_neg e1, if_neg e2]
      refine sat_ask ⟨rfl, rfl, rfl, rfl, by omega⟩ (sat_tst (fun h3 => leaf_v ?_) fun h3 => leaf_v ?_)
      · rw [h3]; rfl
      · rw [h3]; rfl
  · cases h
theorem loop_so : LOk K28.P (bodyOf Try.f40 0) (lspec 23 keepSO 1 gSOL) := lspec_ok K28_ok (L := noL) (fun c' _ F h => by cases h) fun Φ vs H kk hm0 h => by
  unfold gSOL at h
  split at h
  · rename_i l c s a i sh m g
    split at h
    · rename_i hsh
      have := shEq_eq hsh
      subst this
      obtain ⟨⟨rfl, rfl, rfl, rfl, hb, hn⟩, h⟩ := h
      refine ⟨{j : Nat // j ≤ c}, fun n => [.slice (some ⟨0, 0, some 0⟩) c c, .int .u64 s, .int .i64 (smI (wsOf c g) s n.1), .int .i64 n.1], fun _ => [.recs wtK c g], fun n => c - n.1, ⟨0, by omega⟩, rfl, rfl, ?_⟩
      rintro ⟨j, hj⟩
      show (ev K28 noL _ ⟨mkSlots 23 [0, 1, 5, 6] [.slice (some ⟨0, 0, some 0⟩) c c, .int .u64 s, .int .i64 (smI (wsOf c g) s j), .int .i64 j], [.recs wtK c g]⟩ (pkG 23 keepSO 1)).sat _
      rw [run_soB]
      refine sat_tst (fun ht => ?_) (fun ht => ?_)
      · have hlt : j < c := by have := of_decide_eq_true ht; omega
        have hr : (0 : Int) ≤ (j : Int) ∧ (j : Int) < (c : Int) := ⟨by omega, by omega⟩
        obtain ⟨t1, t2⟩ := smI_le hn s (j + 1) (by rw [ws_len]; omega)
        have t1 : 0 ≤ (bif x_inset s (j : Int) then smI (wsOf c g) s j + (wsOf c g)[j]?.getD 0 else smI (wsOf c g) s j) := t1
        have t2 : (bif x_inset s (j : Int) then smI (wsOf c g) s j + (wsOf c g)[j]?.getD 0 else smI (wsOf c g) s j) ≤ 100 * ((j + 1 : Nat) : Int) := t2
        refine sat_ask (show (0 : Int) ≤ (j : Int) by omega) (sat_tst (fun h1 => sat_ask hr (sat_ask hlt ?_)) (fun h1 => ?_))
        · refine ⟨⟨j + 1, by omega⟩, ?_, rfl, by show c - (j + 1) < c - j; omega⟩
          show [some _, some _, some (Value.int .i64 _), some (Value.int .i64 _)] = [some _, some _, some (Value.int .i64 (bif x_inset s (j : Int) then smI (wsOf c g) s j + (wsOf c g)[j]?.getD 0 else smI (wsOf c g) s j)), some (Value.int .i64 _)]
          rw [h1] at t1 t2 ⊢
          simp only [cond_true] at t1 t2 ⊢
          rw [ws_at g hlt] at t1 t2 ⊢
          rw [wrap_at hlt (by omega), show IntKind.wrap .i64 (smI (wsOf c g) s j + intV (hdV (g j))) = smI (wsOf c g) s j + intV (hdV (g j)) from by rw [IntKind.wrap_i64]; omega]
        · refine ⟨⟨j + 1, by omega⟩, ?_, rfl, by show c - (j + 1) < c - j; omega⟩
          show [some _, some _, some (Value.int .i64 _), some (Value.int .i64 _)] = [some _, some _, some (Value.int .i64 (bif x_inset s (j : Int) then smI (wsOf c g) s j + (wsOf c g)[j]?.getD 0 else smI (wsOf c g) s j)), some (Value.int .i64 _)]
          rw [h1, wrap_at hlt (by omega)]
          rfl
      · have hge : j = c := by have := of_decide_eq_false ht; omega
        subst hge
        exact ⟨_, rfl, h⟩
    · exact h.elim
  · exact h.elim
theorem lSO_ok : ∀ F, lSO (key (bodyOf Try.f40 0)) = some F → LOk K28.P (bodyOf Try.f40 0) F := fun F h => by
  have hk : lSO (key (bodyOf Try.f40 0)) = some (lspec 23 keepSO 1 gSOL) := by kernel_rfl
  rw [hk] at h
  cases h
  exact loop_so
theorem q_so : QOk K28.P 40 (listA [.one (.rows wtK), .one .val] aSO gSO) := list_qA K28_ok Try.func40 rfl rfl (one_loop (by kernel_rfl) lSO_ok) fun cas r hb hk ha h => by
  unfold gSO at h
  split at h
  · rename_i sh m g s
    obtain ⟨rfl, -⟩ := hk
    obtain ⟨a1, a2⟩ : m ≤ 12 ∧ anyB (wsOf m g) = false := ha
    cases h
    refine ⟨rfl, ?_⟩
    show (evV K28 lSO _ [.slice (some ⟨0, 0, some 0⟩) m m, .int .u64 s] [.recs wtK m g]).sat _
    rw [run_so]
    exact sat_ask ⟨rfl, rfl, rfl, rfl, a1, a2⟩ rfl
  · cases h
noncomputable def K29 : Kn := (K28.addQ 50 (listC [.one (.rows wtK)] gWC)).addQ 40 (listA [.one (.rows wtK), .one .val] aSO gSO)
theorem K29_ok : K29.Ok := (K28_ok.addQ q_wc).addQ q_so
end Go.Proofs.Ytbmbnbhedalcnab
namespace Go.Proofs.Ytbmbnbhedalcnab
open Go.RowKit
-- @file nb.out
theorem run_rqc (m : Nat) (g : Nat → List Value) (need : Int) : evV K29 noL Try.f43 [.slice (some ⟨0, 0, some 0⟩) m m, .int .i64 need] [.recs wtK m g] = Out.ask (m ≤ m ∧ m ≤ (140737488355328 : Nat)) (tst (wE (wsOf m fun j => g j) != (0 : Int)) (Out.done AE.ret { slots := [some (Value.int IntKind.i64 (wE (wsOf m fun j => g j)))], heap := [] }) (tst (decide (need < (1 : Int))) (Out.done AE.ret { slots := [some (Value.int IntKind.i64 (3 : Int))], heap := [] }) (tst (decide (need > rwV (wsOf m fun j => g (j + (0 : Nat))))) (Out.done AE.ret { slots := [some (Value.int IntKind.i64 (3 : Int))], heap := [] }) (tst (decide (IntKind.wrap IntKind.i64 (need * (2 : Int)) ≤ rwV (wsOf m fun j => g (j + (0 : Nat))))) (Out.done AE.ret { slots := [some (Value.int IntKind.i64 (4 : Int))], heap := [] }) (Out.done AE.ret { slots := [some (Value.int IntKind.i64 (0 : Int))], heap := [] }))))) := by kernel_rfl
def x_rqc (m : Nat) (g : Nat → List Value) (need : Int) : Int := (bif wE (wsOf m fun j => g j) != (0 : Int) then (wE (wsOf m fun j => g j)) else (bif decide (need < (1 : Int)) then (3 : Int) else (bif decide (need > rwV (wsOf m fun j => g (j + (0 : Nat)))) then (3 : Int) else (bif decide (IntKind.wrap IntKind.i64 (need * (2 : Int)) ≤ rwV (wsOf m fun j => g (j + (0 : Nat)))) then (4 : Int) else (0 : Int)))))
def g_rqc : List CA → Option Value
  | [.rows _ m g, .val (.int .i64 need)] => some (.int .i64 (x_rqc m g need))
  | _ => none
theorem q_rqc : QOk K29.P 43 (listC [.one (.rows wtK), .one .val] g_rqc) := list_q K29_ok Try.func43 rfl rfl (no_loops rfl) fun cas r hb hk h => by
  unfold g_rqc at h
  split at h
  · rename_i sh0 m g need
    have e0 := kind_rows (i := 0) hk rfl rfl
    have hbm := bnd_rows (i := 0) hb rfl
    subst e0
    cases h
    refine ⟨rfl, ?_⟩
    show (evV K29 noL _ [.slice (some ⟨0, 0, some 0⟩) m m, .int .i64 need] [.recs wtK m g]).sat _
    rw [run_rqc]
    exact sat_ask (by first | omega | exact ⟨Nat.le_refl _, by assumption⟩ | exact ⟨rfl, rfl⟩ | simp_all) (sat_tst (fun h0 => leaf_v (by simp only [x_rqc, h0, cond_true])) (fun h0 => sat_tst (fun h1 => leaf_v (by simp only [x_rqc, h0, h1, cond_true, cond_false])) (fun h1 => sat_tst (fun h2 => leaf_v (by simp only [x_rqc, h0, h1, h2, cond_true, cond_false])) (fun h2 => sat_tst (fun h3 => leaf_v (by simp only [x_rqc, h0, h1, h2, h3, cond_true, cond_false])) (fun h3 => leaf_v (by simp only [x_rqc, h0, h1, h2, h3, cond_false]))))))
  · cases h
-- @end
-- @file nb.chain
noncomputable def K30 : Kn := K29.addQ 43 (listC [.one (.rows wtK), .one .val] g_rqc)
theorem K30_ok : K30.Ok := K29_ok.addQ q_rqc
-- @end
theorem wE_z {L : List Int} (h : wE L = 0) : L.length ≤ 12 ∧ anyB L = false := by
  unfold wE at h
  by_cases e1 : L.length = 0
  · rw [if_pos e1] at h; omega
  · rw [if_neg e1] at h
    by_cases e2 : 12 < L.length
    · rw [if_pos e2] at h; omega
    · rw [if_neg e2] at h
      cases e3 : anyB L with
      | false => exact ⟨by omega, rfl⟩
      | true => rw [e3, if_pos rfl] at h; omega
theorem rqc_eq (m : Nat) (g : Nat → List Value) (need : Int) : x_rqc m g need = qE (wsOf m g) need := by
  show (bif wE (wsOf m g) != 0 then wE (wsOf m g) else (bif decide (need < 1) then (3 : Int) else bif decide (need > rwV (wsOf m g)) then (3 : Int) else bif decide (IntKind.wrap .i64 (need * 2) ≤ rwV (wsOf m g)) then (4 : Int) else 0)) = qE (wsOf m g) need
  unfold qE rwV
  by_cases h : wE (wsOf m g) = 0
  · obtain ⟨h1, h2⟩ := wE_z h
    have ht := tot_le h2 _ (Nat.le_refl _)
    rw [show (wE (wsOf m g) != 0) = false from by rw [h]; rfl, if_pos h, if_neg (by omega)]
    generalize totK (wsOf m g) (wsOf m g).length = T at ht ⊢
    have hT : T ≤ 1200 := by omega
    by_cases a : need < 1
    · rw [decide_eq_true a, if_pos (.inl a)]; rfl
    · by_cases b : need > T
      · rw [decide_eq_false a, decide_eq_true b, if_pos (.inr (by omega))]; rfl
      · rw [decide_eq_false a, decide_eq_false b, if_neg (by omega), show IntKind.wrap .i64 (need * 2) = need * 2 from by rw [IntKind.wrap_i64]; omega]
        by_cases c : 2 * need ≤ T
        · rw [if_pos c, decide_eq_true (by omega)]; rfl
        · rw [if_neg c, decide_eq_false (by omega)]; rfl
  · have e : (wE (wsOf m g) != 0) = true := by simpa using h
    rw [e, if_pos h]
    rfl
end Go.Proofs.Ytbmbnbhedalcnab
