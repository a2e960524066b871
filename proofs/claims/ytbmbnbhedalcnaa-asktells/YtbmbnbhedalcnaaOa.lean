/- Sums, majorities, operations and messages to all, by the reference. -/
import Derived.Test.YtbmbnbhedalcnaaMm
namespace Go.Proofs.Ytbmbnbhedalcnaa
open Go.RowKit
-- @file na.out
theorem run_inset (s : Int) (n : Int) : evV K25 noL Try.f31 [.int .u64 s, .int .i64 n] [] = Out.ask ((0 : Int) ≤ n) (Out.ask ((2 : Int) ≠ (0 : Int) ∧ IntKind.u64 = IntKind.u64) (Out.done AE.ret { slots := [some (Value.bool (Int.tmod (shrV IntKind.u64 s n) (2 : Int) == (1 : Int)))], heap := [] })) := by kernel_rfl
def x_inset (s : Int) (n : Int) : Bool := (Int.tmod (shrV IntKind.u64 s n) (2 : Int) == (1 : Int))
def g_inset : List CA → Option Value
  | [.val (.int .u64 s), .val (.int .i64 n)] => some (.bool (x_inset s n))
  | _ => none
def a_inset (l : List CA) : Prop :=
  match nthL l 1 with
  | some (.val (.int _ n)) => 0 ≤ n
  | _ => False
theorem q_inset : QOk K25.P 31 (listA [.one .val, .one .val] a_inset g_inset) := list_qA K25_ok Try.func31 rfl rfl (no_loops rfl) fun cas r hb hk ha h => by
  unfold g_inset at h
  split at h
  · rename_i s n
    have ha : 0 ≤ n := ha
    cases h
    refine ⟨rfl, ?_⟩
    show (evV K25 noL _ [.int .u64 s, .int .i64 n] []).sat _
    rw [run_inset]
    exact sat_ask (by first | omega | exact ⟨Nat.le_refl _, by assumption⟩ | exact ⟨rfl, rfl⟩ | simp_all) (sat_ask (by first | omega | exact ⟨Nat.le_refl _, by assumption⟩ | exact ⟨rfl, rfl⟩ | simp_all) (leaf_v rfl))
  · cases h
-- @end
-- @file na.chain
noncomputable def K28 : Kn := K25.addQ 31 (listA [.one .val, .one .val] a_inset g_inset)
theorem K28_ok : K28.Ok := K25_ok.addQ q_inset
-- @end
def keepWC : AE → List Nat
  | .normal => [0, 4, 5]
  | .exit _ => [4]
  | .ret => [2, 3]
def keepSO : AE → List Nat
  | .normal => [0, 1, 5, 6]
  | .exit _ => [5]
  | .ret => []
/-- what the weights come to, if they are right -/
def rwV (L : List Int) : Int := if wE L = 0 then totK L L.length else 0
/-- what those of a set among the first k weigh, by the reference -/
def smI (L : List Int) (s : Int) : Nat → Int
  | 0 => 0
  | k + 1 => bif x_inset s (k : Int) then smI L s k + L[k]?.getD 0 else smI L s k
theorem smI_le {L : List Int} (h : anyB L = false) (s : Int) : ∀ k, k ≤ L.length → 0 ≤ smI L s k ∧ smI L s k ≤ 100 * k
  | 0, _ => by simp [smI]
  | k + 1, hk => by
    have ih := smI_le h s k (by omega)
    have hg : wBad (L[k]?.getD 0) = false := by
      have hm : L[k]?.getD 0 ∈ L := by rw [List.getElem?_eq_getElem (by omega)]; exact List.getElem_mem _
      unfold anyB at h
      rw [List.any_eq_false] at h
      simpa using h _ hm
    have : ¬ (L[k]?.getD 0 < 0 ∨ 100 < L[k]?.getD 0) := of_decide_eq_false hg
    unfold smI
    cases x_inset s (k : Int) <;> simp only [cond_true, cond_false] <;> omega
def gWCL : List Value → List AObj → (AE → List Value → List AObj → Out) → Out
  | [.slice (some ⟨0, 0, some 0⟩) l c, .int .i64 a, .int .i64 i], [.recs sh m g], k => (match shEq sh wtK with
    | true => .ask (l = m ∧ c = m ∧ a = 0 ∧ i = 0 ∧ m ≤ 12) (tst (anyB (wsOf m g)) (k .ret [.int .i64 0, .int .i64 3] [.recs sh m g]) (k (.exit 0) [.int .i64 (totK (wsOf m g) m)] [.recs sh m g]))
    | false => .bad)
  | _, _, _ => .bad
def lWC : Nat → Option LCon := oneL 7 (lspec 37 keepWC 1 gWCL)
def gSOL : List Value → List AObj → (AE → List Value → List AObj → Out) → Out
  | [.slice (some ⟨0, 0, some 0⟩) l c, .int .u64 s, .int .i64 a, .int .i64 i], [.recs sh m g], k => (match shEq sh wtK with
    | true => .ask (l = m ∧ c = m ∧ a = 0 ∧ i = 0 ∧ m ≤ 12 ∧ anyB (wsOf m g) = false) (k (.exit 0) [.int .i64 (smI (wsOf m g) s m)] [.recs sh m g])
    | false => .bad)
  | _, _, _ => .bad
def lSO : Nat → Option LCon := oneL 3 (lspec 23 keepSO 1 gSOL)
def gWC : List CA → Option Value
  | [.rows _ m g] => some (.tuple ⟨[.int .i64 (rwV (wsOf m g)), .int .i64 (wE (wsOf m g))]⟩)
  | _ => none
def gSO : List CA → Option Value
  | [.rows _ m g, .val (.int .u64 s)] => some (.int .i64 (smI (wsOf m g) s m))
  | _ => none
def aSO : List CA → Prop
  | [.rows _ m g, .val (.int .u64 _)] => m ≤ 12 ∧ anyB (wsOf m g) = false
  | _ => False
theorem run_wcB (m k : Nat) (g : Nat → List Value) (a : Int) : ev K28 noL (bodyOf Try.f58 0) ⟨mkSlots 37 [0, 4, 5] [.slice (some ⟨0, 0, some 0⟩) m m, .int .i64 a, .int .i64 k], [.recs wtK m g]⟩ (pkG 37 keepWC 1) =
    tst (decide ((k : Int) < (m : Int))) (.ask ((0 : Int) ≤ (k : Int) ∧ (k : Int) < (m : Int)) (.ask (k < m) (tst (decide (intV (hdV (g k)) < 0)) (.done .ret ⟨someL [.int .i64 0, .int .i64 3], [.recs wtK m g]⟩) (.ask ((0 : Int) ≤ (k : Int) ∧ (k : Int) < (m : Int)) (.ask (k < m) (tst (decide (intV (hdV (g k)) > 100)) (.done .ret ⟨someL [.int .i64 0, .int .i64 3], [.recs wtK m g]⟩)
      (.ask ((0 : Int) ≤ (k : Int) ∧ (k : Int) < (m : Int)) (.ask (k < m) (.done .normal ⟨someL [.slice (some ⟨0, 0, some 0⟩) m m, .int .i64 (IntKind.wrap .i64 (a + intV (hdV (g k)))), .int .i64 (IntKind.wrap .i64 ((k : Int) + 1))], [.recs wtK m g]⟩)))))))))
      (.done (.exit 0) ⟨someL [.int .i64 a], [.recs wtK m g]⟩) := by kernel_rfl
theorem run_wc (m : Nat) (g : Nat → List Value) : evV K28 lWC Try.f58 [.slice (some ⟨0, 0, some 0⟩) m m] [.recs wtK m g] =
    tst ((m : Int) == 0) (.done .ret ⟨[some (.tuple ⟨[.int .i64 0, .int .i64 8]⟩)], []⟩) (tst (decide ((m : Int) > 12)) (.done .ret ⟨[some (.tuple ⟨[.int .i64 0, .int .i64 2]⟩)], []⟩)
      (.ask (m = m ∧ m = m ∧ (0 : Int) = 0 ∧ (0 : Int) = 0 ∧ m ≤ 12) (tst (anyB (wsOf m g)) (.done .ret ⟨[some (.tuple ⟨[.int .i64 0, .int .i64 3]⟩)], []⟩) (.done .ret ⟨[some (.tuple ⟨[.int .i64 (totK (wsOf m g) m), .int .i64 0]⟩)], []⟩)))) := by kernel_rfl
theorem run_soB (m k : Nat) (g : Nat → List Value) (a s : Int) : ev K28 noL (bodyOf Try.f33 0) ⟨mkSlots 23 [0, 1, 5, 6] [.slice (some ⟨0, 0, some 0⟩) m m, .int .u64 s, .int .i64 a, .int .i64 k], [.recs wtK m g]⟩ (pkG 23 keepSO 1) =
    tst (decide ((k : Int) < (m : Int))) (.ask (a_inset [.val (.int .u64 s), .val (.int .i64 k)]) (tst (x_inset s k) (.ask ((0 : Int) ≤ (k : Int) ∧ (k : Int) < (m : Int)) (.ask (k < m) (.done .normal ⟨someL [.slice (some ⟨0, 0, some 0⟩) m m, .int .u64 s, .int .i64 (IntKind.wrap .i64 (a + intV (hdV (g k)))), .int .i64 (IntKind.wrap .i64 ((k : Int) + 1))], [.recs wtK m g]⟩)))
      (.done .normal ⟨someL [.slice (some ⟨0, 0, some 0⟩) m m, .int .u64 s, .int .i64 a, .int .i64 (IntKind.wrap .i64 ((k : Int) + 1))], [.recs wtK m g]⟩)))
      (.done (.exit 0) ⟨someL [.int .i64 a], [.recs wtK m g]⟩) := by kernel_rfl
theorem run_so (m : Nat) (g : Nat → List Value) (s : Int) : evV K28 lSO Try.f33 [.slice (some ⟨0, 0, some 0⟩) m m, .int .u64 s] [.recs wtK m g] =
    .ask (m = m ∧ m = m ∧ (0 : Int) = 0 ∧ (0 : Int) = 0 ∧ m ≤ 12 ∧ anyB (wsOf m g) = false) (.done .ret ⟨[some (.int .i64 (smI (wsOf m g) s m))], []⟩) := by kernel_rfl
theorem any_at {L : List Int} {j : Nat} (hj : j < L.length) (h : wBad (L[j]?.getD 0) = true) : anyB L = true := by
  unfold anyB
  rw [List.any_eq_true]
  exact ⟨_, by rw [List.getElem?_eq_getElem hj]; exact List.getElem_mem _, h⟩
theorem any_no {L : List Int} (h : ∀ i, i < L.length → wBad (L[i]?.getD 0) = false) : anyB L = false := by
  unfold anyB
  rw [List.any_eq_false]
  intro x hx
  obtain ⟨i, hi⟩ := List.mem_iff_getElem?.1 hx
  have := h i (List.getElem?_eq_some_iff.1 hi).1
  rw [hi] at this
  rw [show wBad x = false from this]
  decide
theorem tot_to {L : List Int} : ∀ {k : Nat}, k ≤ L.length → (∀ i, i < k → wBad (L[i]?.getD 0) = false) → 0 ≤ totK L k ∧ totK L k ≤ 100 * k
  | 0, _, _ => by simp [totK]
  | k + 1, hk, h => by
    have ih := tot_to (L := L) (k := k) (by omega) fun i hi => h i (by omega)
    have : ¬ (L[k]?.getD 0 < 0 ∨ 100 < L[k]?.getD 0) := of_decide_eq_false (h k (by omega))
    unfold totK
    omega
theorem loop_wc : LOk K28.P (bodyOf Try.f58 0) (lspec 37 keepWC 1 gWCL) := lspec_ok K28_ok (L := noL) (fun c' _ F h => by cases h) fun Φ vs H kk hm0 h => by
  unfold gWCL at h
  split at h
  · rename_i l c a i sh m g
    split at h
    · rename_i hsh
      have := shEq_eq hsh
      subst this
      obtain ⟨⟨rfl, rfl, rfl, rfl, hb⟩, h⟩ := h
      refine ⟨{j : Nat // j ≤ c ∧ ∀ i, i < j → wBad ((wsOf c g)[i]?.getD 0) = false}, fun n => [.slice (some ⟨0, 0, some 0⟩) c c, .int .i64 (totK (wsOf c g) n.1), .int .i64 n.1], fun _ => [.recs wtK c g], fun n => c - n.1, ⟨0, by omega, fun i hi => by omega⟩, rfl, rfl, ?_⟩
      rintro ⟨j, hj, hz⟩
      show (ev K28 noL _ ⟨mkSlots 37 [0, 4, 5] [.slice (some ⟨0, 0, some 0⟩) c c, .int .i64 (totK (wsOf c g) j), .int .i64 j], [.recs wtK c g]⟩ (pkG 37 keepWC 1)).sat _
      rw [run_wcB]
      refine sat_tst (fun ht => ?_) (fun ht => ?_)
      · have hlt : j < c := by have := of_decide_eq_true ht; omega
        have hr : (0 : Int) ≤ (j : Int) ∧ (j : Int) < (c : Int) := ⟨by omega, by omega⟩
        have bad : wBad (intV (hdV (g j))) = true → anyB (wsOf c g) = true := fun hw => any_at (j := j) (by rw [ws_len]; exact hlt) (by rw [ws_at g hlt]; exact hw)
        refine sat_ask hr (sat_ask hlt (sat_tst (fun h1 => ?_) (fun h1 => sat_ask hr (sat_ask hlt (sat_tst (fun h2 => ?_) (fun h2 => sat_ask hr (sat_ask hlt ?_)))))))
        · rw [bad (decide_eq_true (.inl (of_decide_eq_true h1)))] at h
          exact ⟨_, rfl, h⟩
        · rw [bad (decide_eq_true (.inr (of_decide_eq_true h2)))] at h
          exact ⟨_, rfl, h⟩
        · have h1 := of_decide_eq_false h1
          have h2 := of_decide_eq_false h2
          have hw : wBad (intV (hdV (g j))) = false := decide_eq_false (by omega)
          obtain ⟨t1, t2⟩ := tot_to (L := wsOf c g) (k := j) (by rw [ws_len]; omega) hz
          refine ⟨⟨j + 1, by omega, fun i hi => ?_⟩, ?_, rfl, by show c - (j + 1) < c - j; omega⟩
          · by_cases e : i = j
            · subst e; rw [ws_at g hlt]; exact hw
            · exact hz i (by omega)
          · show [some _, some (Value.int .i64 _), some (Value.int .i64 _)] = [some _, some (Value.int .i64 (totK (wsOf c g) j + (wsOf c g)[j]?.getD 0)), some (Value.int .i64 _)]
            rw [wrap_at hlt (by omega), ws_at g hlt, show IntKind.wrap .i64 (totK (wsOf c g) j + intV (hdV (g j))) = totK (wsOf c g) j + intV (hdV (g j)) from by rw [IntKind.wrap_i64]; omega]
      · have hge : j = c := by have := of_decide_eq_false ht; omega
        subst hge
        rw [any_no (L := wsOf j g) fun i hi => hz i (by rw [ws_len] at hi; exact hi)] at h
        exact ⟨_, rfl, h⟩
    · exact h.elim
  · exact h.elim
theorem lWC_ok : ∀ F, lWC (key (bodyOf Try.f58 0)) = some F → LOk K28.P (bodyOf Try.f58 0) F := fun F h => by
  have hk : lWC (key (bodyOf Try.f58 0)) = some (lspec 37 keepWC 1 gWCL) := by kernel_rfl
  rw [hk] at h
  cases h
  exact loop_wc
theorem q_wc : QOk K28.P 58 (listC [.one (.rows wtK)] gWC) := list_q K28_ok Try.func58 rfl rfl (one_loop (by kernel_rfl) lWC_ok) fun cas r hb hk h => by
  unfold gWC at h
  split at h
  · rename_i sh m g
    obtain ⟨rfl, -⟩ := hk
    cases h
    refine ⟨rfl, ?_⟩
    show (evV K28 lWC _ [.slice (some ⟨0, 0, some 0⟩) m m] [.recs wtK m g]).sat _
    rw [run_wc]
    unfold rwV wE
    rw [ws_len]
    refine sat_tst (fun h1 => leaf_v ?_) (fun h1 => sat_tst (fun h2 => leaf_v ?_) fun h2 => ?_)
    · have : m = 0 := by have : (m : Int) = 0 := eq_of_beq h1; omega
      rw [if_pos this]; rfl
    · have e1 : m ≠ 0 := fun e => by rw [e] at h1; cases h1
      have e2 : 12 < m := by have := of_decide_eq_true h2; omega
      rw [if_neg e1, if_pos e2]; rfl
    · have e1 : m ≠ 0 := fun e => by rw [e] at h1; cases h1
      have e2 : ¬ 12 < m := by have := of_decide_eq_false h2; omega
      rw [if_neg e1, if_neg e2]
      refine sat_ask ⟨rfl, rfl, rfl, rfl, by omega⟩ (sat_tst (fun h3 => leaf_v ?_) fun h3 => leaf_v ?_)
      · rw [h3]; rfl
      · rw [h3]; rfl
  · cases h
theorem loop_so : LOk K28.P (bodyOf Try.f33 0) (lspec 23 keepSO 1 gSOL) := lspec_ok K28_ok (L := noL) (fun c' _ F h => by cases h) fun Φ vs H kk hm0 h => by
  unfold gSOL at h
  split at h
  · rename_i l c s a i sh m g
    split at h
    · rename_i hsh
      have := shEq_eq hsh
      subst this
      obtain ⟨⟨rfl, rfl, rfl, rfl, hb, hn⟩, h⟩ := h
      refine ⟨{j : Nat // j ≤ c}, fun n => [.slice (some ⟨0, 0, some 0⟩) c c, .int .u64 s, .int .i64 (smI (wsOf c g) s n.1), .int .i64 n.1], fun _ => [.recs wtK c g], fun n => c - n.1, ⟨0, by omega⟩, rfl, rfl, ?_⟩
      rintro ⟨j, hj⟩
      show (ev K28 noL _ ⟨mkSlots 23 [0, 1, 5, 6] [.slice (some ⟨0, 0, some 0⟩) c c, .int .u64 s, .int .i64 (smI (wsOf c g) s j), .int .i64 j], [.recs wtK c g]⟩ (pkG 23 keepSO 1)).sat _
      rw [run_soB]
      refine sat_tst (fun ht => ?_) (fun ht => ?_)
      · have hlt : j < c := by have := of_decide_eq_true ht; omega
        have hr : (0 : Int) ≤ (j : Int) ∧ (j : Int) < (c : Int) := ⟨by omega, by omega⟩
        obtain ⟨t1, t2⟩ := smI_le hn s (j + 1) (by rw [ws_len]; omega)
        have t1 : 0 ≤ (bif x_inset s (j : Int) then smI (wsOf c g) s j + (wsOf c g)[j]?.getD 0 else smI (wsOf c g) s j) := t1
        have t2 : (bif x_inset s (j : Int) then smI (wsOf c g) s j + (wsOf c g)[j]?.getD 0 else smI (wsOf c g) s j) ≤ 100 * ((j + 1 : Nat) : Int) := t2
        refine sat_ask (show (0 : Int) ≤ (j : Int) by omega) (sat_tst (fun h1 => sat_ask hr (sat_ask hlt ?_)) (fun h1 => ?_))
        · refine ⟨⟨j + 1, by omega⟩, ?_, rfl, by show c - (j + 1) < c - j; omega⟩
          show [some _, some _, some (Value.int .i64 _), some (Value.int .i64 _)] = [some _, some _, some (Value.int .i64 (bif x_inset s (j : Int) then smI (wsOf c g) s j + (wsOf c g)[j]?.getD 0 else smI (wsOf c g) s j)), some (Value.int .i64 _)]
          rw [h1] at t1 t2 ⊢
          simp only [cond_true] at t1 t2 ⊢
          rw [ws_at g hlt] at t1 t2 ⊢
          rw [wrap_at hlt (by omega), show IntKind.wrap .i64 (smI (wsOf c g) s j + intV (hdV (g j))) = smI (wsOf c g) s j + intV (hdV (g j)) from by rw [IntKind.wrap_i64]; omega]
        · refine ⟨⟨j + 1, by omega⟩, ?_, rfl, by show c - (j + 1) < c - j; omega⟩
          show [some _, some _, some (Value.int .i64 _), some (Value.int .i64 _)] = [some _, some _, some (Value.int .i64 (bif x_inset s (j : Int) then smI (wsOf c g) s j + (wsOf c g)[j]?.getD 0 else smI (wsOf c g) s j)), some (Value.int .i64 _)]
          rw [h1, wrap_at hlt (by omega)]
          rfl
      · have hge : j = c := by have := of_decide_eq_false ht; omega
        subst hge
        exact ⟨_, rfl, h⟩
    · exact h.elim
  · exact h.elim
theorem lSO_ok : ∀ F, lSO (key (bodyOf Try.f33 0)) = some F → LOk K28.P (bodyOf Try.f33 0) F := fun F h => by
  have hk : lSO (key (bodyOf Try.f33 0)) = some (lspec 23 keepSO 1 gSOL) := by kernel_rfl
  rw [hk] at h
  cases h
  exact loop_so
theorem q_so : QOk K28.P 33 (listA [.one (.rows wtK), .one .val] aSO gSO) := list_qA K28_ok Try.func33 rfl rfl (one_loop (by kernel_rfl) lSO_ok) fun cas r hb hk ha h => by
  unfold gSO at h
  split at h
  · rename_i sh m g s
    obtain ⟨rfl, -⟩ := hk
    obtain ⟨a1, a2⟩ : m ≤ 12 ∧ anyB (wsOf m g) = false := ha
    cases h
    refine ⟨rfl, ?_⟩
    show (evV K28 lSO _ [.slice (some ⟨0, 0, some 0⟩) m m, .int .u64 s] [.recs wtK m g]).sat _
    rw [run_so]
    exact sat_ask ⟨rfl, rfl, rfl, rfl, a1, a2⟩ rfl
  · cases h
noncomputable def K29 : Kn := (K28.addQ 58 (listC [.one (.rows wtK)] gWC)).addQ 33 (listA [.one (.rows wtK), .one .val] aSO gSO)
theorem K29_ok : K29.Ok := (K28_ok.addQ q_wc).addQ q_so
end Go.Proofs.Ytbmbnbhedalcnaa
namespace Go.Proofs.Ytbmbnbhedalcnaa
open Go.RowKit
-- @file nb.out
theorem run_rqc (m : Nat) (g : Nat → List Value) (need : Int) : evV K29 noL Try.f43 [.slice (some ⟨0, 0, some 0⟩) m m, .int .i64 need] [.recs wtK m g] = Out.ask (m ≤ m ∧ m ≤ (140737488355328 : Nat)) (tst (wE (wsOf m fun j => g j) != (0 : Int)) (Out.done AE.ret { slots := [some (Value.int IntKind.i64 (wE (wsOf m fun j => g j)))], heap := [] }) (tst (decide (need < (1 : Int))) (Out.done AE.ret { slots := [some (Value.int IntKind.i64 (3 : Int))], heap := [] }) (tst (decide (need > rwV (wsOf m fun j => g (j + (0 : Nat))))) (Out.done AE.ret { slots := [some (Value.int IntKind.i64 (3 : Int))], heap := [] }) (tst (decide (IntKind.wrap IntKind.i64 (need * (2 : Int)) ≤ rwV (wsOf m fun j => g (j + (0 : Nat))))) (Out.done AE.ret { slots := [some (Value.int IntKind.i64 (4 : Int))], heap := [] }) (Out.done AE.ret { slots := [some (Value.int IntKind.i64 (0 : Int))], heap := [] }))))) := by kernel_rfl
def x_rqc (m : Nat) (g : Nat → List Value) (need : Int) : Int := (bif wE (wsOf m fun j => g j) != (0 : Int) then (wE (wsOf m fun j => g j)) else (bif decide (need < (1 : Int)) then (3 : Int) else (bif decide (need > rwV (wsOf m fun j => g (j + (0 : Nat)))) then (3 : Int) else (bif decide (IntKind.wrap IntKind.i64 (need * (2 : Int)) ≤ rwV (wsOf m fun j => g (j + (0 : Nat)))) then (4 : Int) else (0 : Int)))))
def g_rqc : List CA → Option Value
  | [.rows _ m g, .val (.int .i64 need)] => some (.int .i64 (x_rqc m g need))
  | _ => none
theorem q_rqc : QOk K29.P 43 (listC [.one (.rows wtK), .one .val] g_rqc) := list_q K29_ok Try.func43 rfl rfl (no_loops rfl) fun cas r hb hk h => by
  unfold g_rqc at h
  split at h
  · rename_i sh0 m g need
    have e0 := kind_rows (i := 0) hk rfl rfl
    have hbm := bnd_rows (i := 0) hb rfl
    subst e0
    cases h
    refine ⟨rfl, ?_⟩
    show (evV K29 noL _ [.slice (some ⟨0, 0, some 0⟩) m m, .int .i64 need] [.recs wtK m g]).sat _
    rw [run_rqc]
    exact sat_ask (by first | omega | exact ⟨Nat.le_refl _, by assumption⟩ | exact ⟨rfl, rfl⟩ | simp_all) (sat_tst (fun h0 => leaf_v (by simp only [x_rqc, h0, cond_true])) (fun h0 => sat_tst (fun h1 => leaf_v (by simp only [x_rqc, h0, h1, cond_true, cond_false])) (fun h1 => sat_tst (fun h2 => leaf_v (by simp only [x_rqc, h0, h1, h2, cond_true, cond_false])) (fun h2 => sat_tst (fun h3 => leaf_v (by simp only [x_rqc, h0, h1, h2, h3, cond_true, cond_false])) (fun h3 => leaf_v (by simp only [x_rqc, h0, h1, h2, h3, cond_false]))))))
  · cases h
-- @end
-- @file nb.chain
noncomputable def K30 : Kn := K29.addQ 43 (listC [.one (.rows wtK), .one .val] g_rqc)
theorem K30_ok : K30.Ok := K29_ok.addQ q_rqc
-- @end
theorem wE_z {L : List Int} (h : wE L = 0) : L.length ≤ 12 ∧ anyB L = false := by
  unfold wE at h
  by_cases e1 : L.length = 0
  · rw [if_pos e1] at h; omega
  · rw [if_neg e1] at h
    by_cases e2 : 12 < L.length
    · rw [if_pos e2] at h; omega
    · rw [if_neg e2] at h
      cases e3 : anyB L with
      | false => exact ⟨by omega, rfl⟩
      | true => rw [e3, if_pos rfl] at h; omega
theorem rqc_eq (m : Nat) (g : Nat → List Value) (need : Int) : x_rqc m g need = qE (wsOf m g) need := by
  show (bif wE (wsOf m g) != 0 then wE (wsOf m g) else (bif decide (need < 1) then (3 : Int) else bif decide (need > rwV (wsOf m g)) then (3 : Int) else bif decide (IntKind.wrap .i64 (need * 2) ≤ rwV (wsOf m g)) then (4 : Int) else 0)) = qE (wsOf m g) need
  unfold qE rwV
  by_cases h : wE (wsOf m g) = 0
  · obtain ⟨h1, h2⟩ := wE_z h
    have ht := tot_le h2 _ (Nat.le_refl _)
    rw [show (wE (wsOf m g) != 0) = false from by rw [h]; rfl, if_pos h, if_neg (by omega)]
    generalize totK (wsOf m g) (wsOf m g).length = T at ht ⊢
    have hT : T ≤ 1200 := by omega
    by_cases a : need < 1
    · rw [decide_eq_true a, if_pos (.inl a)]; rfl
    · by_cases b : need > T
      · rw [decide_eq_false a, decide_eq_true b, if_pos (.inr (by omega))]; rfl
      · rw [decide_eq_false a, decide_eq_false b, if_neg (by omega), show IntKind.wrap .i64 (need * 2) = need * 2 from by rw [IntKind.wrap_i64]; omega]
        by_cases c : 2 * need ≤ T
        · rw [if_pos c, decide_eq_true (by omega)]; rfl
        · rw [if_neg c, decide_eq_false (by omega)]; rfl
  · have e : (wE (wsOf m g) != 0) = true := by simpa using h
    rw [e, if_pos h]
    rfl
end Go.Proofs.Ytbmbnbhedalcnaa
namespace Go.Proofs.Ytbmbnbhedalcnaa
open Go.RowKit
-- @file nc.out
theorem run_rack (m : Nat) (g : Nat → List Value) (need : Int) (op : Int) (k : Int) (p : Int) (d : ByteArray) (t : Int) (w : Int) (s : ByteArray) (hd : Int) : evV K30 noL Try.f18 [.agg ⟨[.slice (some ⟨0, 0, some 0⟩) m m, .int .i64 need]⟩, .agg ⟨[.int .i64 op, .int .i64 k, .int .i64 p, .string d, .int .i64 t, .int .i64 w, .string s, .int .u64 hd]⟩] [.recs wtK m g] = Out.ask (m ≤ m ∧ m ≤ (140737488355328 : Nat)) (tst (x_rqc m (fun j => g j) need != (0 : Int)) (Out.done AE.ret { slots := [some (Value.int IntKind.i64 (x_rqc m (fun j => g j) need))], heap := [] }) (tst (decide (op < (0 : Int))) (Out.done AE.ret { slots := [some (Value.int IntKind.i64 (3 : Int))], heap := [] }) (tst (decide (op > (30 : Int))) (Out.done AE.ret { slots := [some (Value.int IntKind.i64 (3 : Int))], heap := [] }) (tst (decide (k < (1 : Int))) (Out.done AE.ret { slots := [some (Value.int IntKind.i64 (7 : Int))], heap := [] }) (tst (decide (k > (2 : Int))) (Out.done AE.ret { slots := [some (Value.int IntKind.i64 (7 : Int))], heap := [] }) (tst (decide (p < (1 : Int))) (Out.done AE.ret { slots := [some (Value.int IntKind.i64 (7 : Int))], heap := [] }) (tst (decide (p > (3 : Int))) (Out.done AE.ret { slots := [some (Value.int IntKind.i64 (7 : Int))], heap := [] }) (tst (decide ((↑(ByteArray.size d) : Int) > (64 : Int))) (Out.done AE.ret { slots := [some (Value.int IntKind.i64 (2 : Int))], heap := [] }) (tst (k == (1 : Int)) (tst (decide ((↑(ByteArray.size d) : Int) > (0 : Int))) (Out.done AE.ret { slots := [some (Value.int IntKind.i64 (1 : Int))], heap := [] }) (tst (x_rcc t w s != (0 : Int)) (Out.done AE.ret { slots := [some (Value.int IntKind.i64 (x_rcc t w s))], heap := [] }) (Out.ask ((0 : Int) ≤ (↑m : Int)) (tst (decide (hd ≥ shlV IntKind.u64 (1 : Int) (↑m : Int))) (Out.done AE.ret { slots := [some (Value.int IntKind.i64 (3 : Int))], heap := [] }) (Out.done AE.ret { slots := [some (Value.int IntKind.i64 (0 : Int))], heap := [] }))))) (tst (x_rcc t w s != (0 : Int)) (Out.done AE.ret { slots := [some (Value.int IntKind.i64 (x_rcc t w s))], heap := [] }) (Out.ask ((0 : Int) ≤ (↑m : Int)) (tst (decide (hd ≥ shlV IntKind.u64 (1 : Int) (↑m : Int))) (Out.done AE.ret { slots := [some (Value.int IntKind.i64 (3 : Int))], heap := [] }) (Out.done AE.ret { slots := [some (Value.int IntKind.i64 (0 : Int))], heap := [] }))))))))))))) := by kernel_rfl
def x_rack (m : Nat) (g : Nat → List Value) (need : Int) (op : Int) (k : Int) (p : Int) (d : ByteArray) (t : Int) (w : Int) (s : ByteArray) (hd : Int) : Int := (bif x_rqc m (fun j => g j) need != (0 : Int) then (x_rqc m (fun j => g j) need) else (bif decide (op < (0 : Int)) then (3 : Int) else (bif decide (op > (30 : Int)) then (3 : Int) else (bif decide (k < (1 : Int)) then (7 : Int) else (bif decide (k > (2 : Int)) then (7 : Int) else (bif decide (p < (1 : Int)) then (7 : Int) else (bif decide (p > (3 : Int)) then (7 : Int) else (bif decide ((↑(ByteArray.size d) : Int) > (64 : Int)) then (2 : Int) else (bif k == (1 : Int) then (bif decide ((↑(ByteArray.size d) : Int) > (0 : Int)) then (1 : Int) else (bif x_rcc t w s != (0 : Int) then (x_rcc t w s) else (bif decide (hd ≥ shlV IntKind.u64 (1 : Int) (↑m : Int)) then (3 : Int) else (0 : Int)))) else (bif x_rcc t w s != (0 : Int) then (x_rcc t w s) else (bif decide (hd ≥ shlV IntKind.u64 (1 : Int) (↑m : Int)) then (3 : Int) else (0 : Int))))))))))))
def g_rack : List CA → Option Value
  | [.rows _ m g, .val (.int .i64 need), .val (.agg ⟨[.int .i64 op, .int .i64 k, .int .i64 p, .string d, .int .i64 t, .int .i64 w, .string s, .int .u64 hd]⟩)] => some (.int .i64 (x_rack m g need op k p d t w s hd))
  | _ => none
theorem q_rack : QOk K30.P 18 (listC [.agg [.rows wtK, .val], .one .val] g_rack) := list_q K30_ok Try.func18 rfl rfl (no_loops rfl) fun cas r hb hk h => by
  unfold g_rack at h
  split at h
  · rename_i sh0 m g need op k p d t w s hd
    have e0 := kind_rows (i := 0) hk rfl rfl
    have hbm := bnd_rows (i := 0) hb rfl
    subst e0
    cases h
    refine ⟨rfl, ?_⟩
    show (evV K30 noL _ [.agg ⟨[.slice (some ⟨0, 0, some 0⟩) m m, .int .i64 need]⟩, .agg ⟨[.int .i64 op, .int .i64 k, .int .i64 p, .string d, .int .i64 t, .int .i64 w, .string s, .int .u64 hd]⟩] [.recs wtK m g]).sat _
    rw [run_rack]
    exact sat_ask (by first | omega | exact ⟨Nat.le_refl _, by assumption⟩ | exact ⟨rfl, rfl⟩ | simp_all) (sat_tst (fun h0 => leaf_v (by simp only [x_rack, h0, cond_true])) (fun h0 => sat_tst (fun h1 => leaf_v (by simp only [x_rack, h0, h1, cond_true, cond_false])) (fun h1 => sat_tst (fun h2 => leaf_v (by simp only [x_rack, h0, h1, h2, cond_true, cond_false])) (fun h2 => sat_tst (fun h3 => leaf_v (by simp only [x_rack, h0, h1, h2, h3, cond_true, cond_false])) (fun h3 => sat_tst (fun h4 => leaf_v (by simp only [x_rack, h0, h1, h2, h3, h4, cond_true, cond_false])) (fun h4 => sat_tst (fun h5 => leaf_v (by simp only [x_rack, h0, h1, h2, h3, h4, h5, cond_true, cond_false])) (fun h5 => sat_tst (fun h6 => leaf_v (by simp only [x_rack, h0, h1, h2, h3, h4, h5, h6, cond_true, cond_false])) (fun h6 => sat_tst (fun h7 => leaf_v (by simp only [x_rack, h0, h1, h2, h3, h4, h5, h6, h7, cond_true, cond_false])) (fun h7 => sat_tst (fun h8 => sat_tst (fun h9 => leaf_v (by simp only [x_rack, h0, h1, h2, h3, h4, h5, h6, h7, h8, h9, cond_true, cond_false])) (fun h9 => sat_tst (fun h10 => leaf_v (by simp only [x_rack, h0, h1, h2, h3, h4, h5, h6, h7, h8, h9, h10, cond_true, cond_false])) (fun h10 => sat_ask (by first | omega | exact ⟨Nat.le_refl _, by assumption⟩ | exact ⟨rfl, rfl⟩ | simp_all) (sat_tst (fun h11 => leaf_v (by simp only [x_rack, h0, h1, h2, h3, h4, h5, h6, h7, h8, h9, h10, h11, cond_true, cond_false])) (fun h11 => leaf_v (by simp only [x_rack, h0, h1, h2, h3, h4, h5, h6, h7, h8, h9, h10, h11, cond_true, cond_false])))))) (fun h8 => sat_tst (fun h9 => leaf_v (by simp only [x_rack, h0, h1, h2, h3, h4, h5, h6, h7, h8, h9, cond_true, cond_false])) (fun h9 => sat_ask (by first | omega | exact ⟨Nat.le_refl _, by assumption⟩ | exact ⟨rfl, rfl⟩ | simp_all) (sat_tst (fun h10 => leaf_v (by simp only [x_rack, h0, h1, h2, h3, h4, h5, h6, h7, h8, h9, h10, cond_true, cond_false])) (fun h10 => leaf_v (by simp only [x_rack, h0, h1, h2, h3, h4, h5, h6, h7, h8, h9, h10, cond_false]))))))))))))))
  · cases h
-- @end
-- @file nc.chain
noncomputable def K31 : Kn := K30.addQ 18 (listC [.agg [.rows wtK, .val], .one .val] g_rack)
theorem K31_ok : K31.Ok := K30_ok.addQ q_rack
-- @end
def keepEN : AE → List Nat
  | .normal => [0, 3, 5, 6]
  | .exit _ => [5]
  | .ret => []
/-- the messages to the first k -/
def enG (a b t w : Int) (s : ByteArray) : Nat → Nat → List Value
  | 0 => fun _ => []
  | k + 1 => joinG k (enG a b t w s k) (litR [mgC a b (k : Int) t w s])
def enS (n : Int) : Nat → List Value
  | 0 => [.int .i64 n, .pointer (some ⟨0, 0, none⟩), .slice none 0 0, .int .i64 0]
  | k + 1 => [.int .i64 n, .pointer (some ⟨0, 0, none⟩), .slice (some ⟨1, 0, some 0⟩) (k + 1) (k + 1), .int .i64 ((k + 1 : Nat) : Int)]
def enH (T : Nat) (a b c t w : Int) (s : ByteArray) : Nat → List AObj
  | 0 => [.cells T [.int .i64 a, .int .i64 b, .int .i64 c, .int .i64 t, .int .i64 w, .string s]]
  | k + 1 => [.cells T [.int .i64 a, .int .i64 b, .int .i64 (k : Int), .int .i64 t, .int .i64 w, .string s], .row 40 msK (k + 1) (enG a b t w s (k + 1))]
def gENL : List Value → List AObj → (AE → List Value → List AObj → Out) → Out
  | [.int .i64 n, .pointer (some ⟨0, 0, none⟩), .slice none 0 0, .int .i64 i], [.cells T [.int .i64 a, .int .i64 b, .int .i64 c, .int .i64 t, .int .i64 w, .string s]], kk =>
    .ask (i = 0 ∧ 1 ≤ n ∧ n ≤ 12) (kk (.exit 0) [.slice (some ⟨1, 0, some 0⟩) (n.toNat - 1 + 1) (n.toNat - 1 + 1)] (enH T a b c t w s (n.toNat - 1 + 1)))
  | _, _, _ => .bad
def lEN : Nat → Option LCon := oneL 3 (lspec 19 keepEN 1 gENL)
theorem run_en0 (T : Nat) (n a b c t w : Int) (s : ByteArray) : ev K31 noL (bodyOf Try.f35 0) ⟨mkSlots 19 [0, 3, 5, 6] (enS n 0), enH T a b c t w s 0⟩ (pkG 19 keepEN 1) =
    tst (decide ((0 : Int) < n)) (.ask (1 ≤ 1 ∧ 1 ≤ 140737488355328) (.ask (56 ≤ 140737488355328) (.done .normal ⟨someL (enS n 1), enH T a b c t w s 1⟩))) (.done (.exit 0) ⟨someL [.slice none 0 0], enH T a b c t w s 0⟩) := by kernel_rfl
theorem run_en1 (T k : Nat) (n a b c t w : Int) (s : ByteArray) : ev K31 noL (bodyOf Try.f35 0) ⟨mkSlots 19 [0, 3, 5, 6] (enS n (k + 1)), enH T a b c t w s (k + 1)⟩ (pkG 19 keepEN 1) =
    tst (decide (((k + 1 : Nat) : Int) < n)) (.ask (k + 1 ≤ k + 1) (.ask (1 ≤ 1 ∧ 1 ≤ 140737488355328) (.ask ((k + 1 + 1) * 56 ≤ 140737488355328) (.done .normal ⟨someL [.int .i64 n, .pointer (some ⟨0, 0, none⟩), .slice (some ⟨1, 0, some 0⟩) (k + 1 + 1) (k + 1 + 1), .int .i64 (IntKind.wrap .i64 (((k + 1 : Nat) : Int) + 1))], enH T a b c t w s (k + 1 + 1)⟩))))
      (.done (.exit 0) ⟨someL [.slice (some ⟨1, 0, some 0⟩) (k + 1) (k + 1)], enH T a b c t w s (k + 1)⟩) := by kernel_rfl
theorem loop_en : LOk K31.P (bodyOf Try.f35 0) (lspec 19 keepEN 1 gENL) := lspec_ok K31_ok (L := noL) (fun c' _ F h => by cases h) fun Φ vs H kk hm0 h => by
  unfold gENL at h
  split at h
  · rename_i n i T a b c t w s
    obtain ⟨⟨rfl, hn1, hn2⟩, h⟩ := h
    obtain ⟨N, rfl⟩ : ∃ N : Nat, n = ((N + 1 : Nat) : Int) := ⟨n.toNat - 1, by omega⟩
    rw [Int.toNat_natCast, Nat.add_sub_cancel] at h
    refine ⟨{j : Nat // j ≤ N + 1}, fun i => enS ((N + 1 : Nat) : Int) i.1, fun i => enH T a b c t w s i.1, fun i => N + 1 - i.1, ⟨0, by omega⟩, rfl, rfl, ?_⟩
    rintro ⟨j, hj⟩
    show (ev K31 noL _ ⟨mkSlots 19 [0, 3, 5, 6] (enS ((N + 1 : Nat) : Int) j), enH T a b c t w s j⟩ (pkG 19 keepEN 1)).sat _
    cases j with
    | zero =>
      rw [run_en0]
      refine sat_tst (fun _ => sat_ask ⟨by omega, by omega⟩ (sat_ask (by decide) ⟨⟨1, by omega⟩, rfl, rfl, by show N + 1 - 1 < N + 1 - 0; omega⟩)) (fun ht => ?_)
      have := of_decide_eq_false ht
      omega
    | succ k =>
      rw [run_en1]
      refine sat_tst (fun ht => ?_) (fun ht => ?_)
      · have ht := of_decide_eq_true ht
        refine sat_ask (Nat.le_refl _) (sat_ask ⟨by omega, by omega⟩ (sat_ask (by omega) ⟨⟨k + 1 + 1, by omega⟩, ?_, rfl, by show N + 1 - (k + 1 + 1) < N + 1 - (k + 1); omega⟩))
        rw [show IntKind.wrap .i64 (((k + 1 : Nat) : Int) + 1) = ((k + 1 + 1 : Nat) : Int) from by rw [IntKind.wrap_i64]; omega]
        rfl
      · have ht := of_decide_eq_false ht
        obtain rfl : k = N := by omega
        exact ⟨_, rfl, h⟩
  · exact h.elim
theorem lEN_ok : ∀ F, lEN (key (bodyOf Try.f35 0)) = some F → LOk K31.P (bodyOf Try.f35 0) F := fun F h => by
  have hk : lEN (key (bodyOf Try.f35 0)) = some (lspec 19 keepEN 1 gENL) := by kernel_rfl
  rw [hk] at h
  cases h
  exact loop_en
theorem enG_at (a b t w : Int) (s : ByteArray) : ∀ {n j : Nat}, j < n → enG a b t w s n j = toC a b t w s j
  | n + 1, j, hj => by
    show (bif Nat.blt j n then enG a b t w s n j else litR [mgC a b (n : Int) t w s] (j - n)) = _
    by_cases e : j < n
    · rw [show Nat.blt j n = true from by rw [Nat.blt_eq]; exact e]
      exact enG_at a b t w s e
    · obtain rfl : j = n := by omega
      rw [show Nat.blt j j = false from by
        cases e : Nat.blt j j with
        | false => rfl
        | true => rw [Nat.blt_eq] at e; omega, Nat.sub_self]
      rfl
def aEN : List CA → Prop
  | [.val (.int _ n), _] => 1 ≤ n ∧ n ≤ 12
  | _ => False
def gEN : List CA → Option (List RC)
  | [.val (.int .i64 n), .val (.agg ⟨[.int .i64 a, .int .i64 b, .int .i64 _, .int .i64 t, .int .i64 w, .string s]⟩)] => some [.rows 40 msK n.toNat (toC a b t w s)]
  | _ => none
theorem run_en (n a b c t w : Int) (s : ByteArray) : evR K31 lEN Try.f35 [.int .i64 n, .agg ⟨[.int .i64 a, .int .i64 b, .int .i64 c, .int .i64 t, .int .i64 w, .string s]⟩] [] [.one .val] [.rows 40 msK n.toNat (toC a b t w s)] =
    .ask ((0 : Int) = 0 ∧ 1 ≤ n ∧ n ≤ 12) (.ask (n.toNat - 1 + 1 = n.toNat ∧ n.toNat - 1 + 1 ≤ n.toNat - 1 + 1 ∧ ∀ j, j < n.toNat → norm msK (enG a b t w s (n.toNat - 1 + 1) j) = norm msK (toC a b t w s j)) (.done .ret ⟨[], []⟩)) := by kernel_rfl
theorem f_en : FOk K31.P 35 (listF [.one .val, .one .val] [.one .val] aEN gEN) := list_f K31_ok Try.func35 rfl rfl (one_loop (by kernel_rfl) lEN_ok) fun cas rs hb hk ha h => by
  unfold gEN at h
  split at h
  · rename_i n a b c t w s
    obtain ⟨h1, h2⟩ : 1 ≤ n ∧ n ≤ 12 := ha
    cases h
    show (evR K31 lEN _ [.int .i64 n, .agg ⟨[.int .i64 a, .int .i64 b, .int .i64 c, .int .i64 t, .int .i64 w, .string s]⟩] [] [.one .val] _).sat _
    rw [run_en]
    have e : n.toNat - 1 + 1 = n.toNat := by omega
    exact sat_ask ⟨rfl, h1, h2⟩ (sat_ask ⟨e, Nat.le_refl _, fun j hj => by rw [e, enG_at a b t w s hj]⟩ sat_end)
  · cases h
noncomputable def K32 : Kn := K31.addF 35 (listF [.one .val, .one .val] [.one .val] aEN gEN)
theorem K32_ok : K32.Ok := K31_ok.addF f_en
theorem rack_eq {m : Nat} {g : Nat → List Value} {need op k p : Int} {d : ByteArray} {t w : Int} {s : ByteArray} {hd : Int} (hw : (Lit.int .u64 hd).wf = true) : x_rack m g need op k p d t w s hd = x_achk m g need op k p d t w s hd := by
  unfold x_rack x_achk
  have eta : (wsOf m fun j => g j) = wsOf m g := rfl
  rw [rqc_eq, rcc_eq, eta]
  cases hq : (qE (wsOf m g) need != 0) with
  | true => rfl
  | false =>
    have hm : m ≤ 12 := by
      have := (qE_m (eq_of_bne hq)).1
      rw [ws_len] at this
      exact this
    have e1 : decide (op > 30) = decide (op ≥ 31) := by rw [decide_eq_decide]; omega
    have e2 : decide ((ByteArray.size d : Int) > 0) = (!ByteArray.toList d == []) := by
      rw [ByteArray.toList_eq]
      obtain ⟨⟨l⟩⟩ := d
      cases l with
      | nil => rfl
      | cons x l => simp [ByteArray.size]
    have e3 : decide (hd ≥ shlV .u64 1 (m : Int)) = (shrV .u64 hd m != 0) := by
      obtain ⟨n, rfl, hn⟩ := wf_nat hw
      rw [shl_nat (by omega), shr_nat _ _ (by omega)]
      have hp : 0 < 2 ^ m := Nat.two_pow_pos m
      by_cases hh : n < 2 ^ m
      · rw [Nat.div_eq_of_lt hh, decide_eq_false (by omega)]
        rfl
      · have : n / 2 ^ m ≠ 0 := fun e => hh ((Nat.div_eq_zero_iff_lt hp).1 e)
        rw [decide_eq_true (by omega)]
        symm
        simp only [bne_iff_ne, ne_eq]
        omega
    rw [e1, e2, e3]
    unfold x_akind x_aphase
    simp only [cond_false]
    cases decide (op < 0)
    · cases decide (op ≥ 31)
      · by_cases k1 : k < 1
        · have h1 : (k == 1) = false := by simp; omega
          have h2 : (k == 2) = false := by simp; omega
          rw [decide_eq_true k1, h1, h2]; rfl
        · by_cases k2 : k > 2
          · have h1 : (k == 1) = false := by simp; omega
            have h2 : (k == 2) = false := by simp; omega
            rw [decide_eq_true k2, decide_eq_false k1, h1, h2]; rfl
          · have hk : (!bif k == 1 then true else k == 2) = false := by
              have : k = 1 ∨ k = 2 := by omega
              rcases this with rfl | rfl <;> rfl
            rw [decide_eq_false k1, decide_eq_false k2, hk]
            simp only [cond_false]
            by_cases p1 : p < 1
            · rw [decide_eq_true p1, decide_eq_false (show ¬ 1 ≤ p by omega)]; rfl
            · rw [decide_eq_false p1, decide_eq_true (show 1 ≤ p by omega)]
              by_cases p2 : p > 3
              · rw [decide_eq_true p2, decide_eq_false (show ¬ p ≤ 3 by omega)]; rfl
              · rw [decide_eq_false p2, decide_eq_true (show p ≤ 3 by omega)]; rfl
      · rfl
    · rfl
theorem rack_n {m : Nat} {g : Nat → List Value} {need op k p : Int} {d : ByteArray} {t w : Int} {s : ByteArray} {hd : Int} (h : (x_rack m g need op k p d t w s hd != 0) = false) : (1 : Int) ≤ (m : Int) ∧ (m : Int) ≤ 12 := by
  have h := eq_of_bne h
  unfold x_rack at h
  have eta : (fun j => g j) = g := rfl
  rw [rqc_eq, eta, cz2] at h
  have := qE_m h.1
  rw [ws_len] at this
  omega
end Go.Proofs.Ytbmbnbhedalcnaa
