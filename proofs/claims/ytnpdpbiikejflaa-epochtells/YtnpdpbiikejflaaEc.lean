/- Check of epochs, by symbolic runs. -/
import Derived.Test.YtnpdpbiikejflaaEb
namespace Go.Proofs.Ytnpdpbiikejflaa
open Go.RowKit
theorem run_oc (x : Int) : evV K0 noL Try.f24 [.int .u64 x] [] = Out.ask ((0 : Int) ≤ (1 : Int)) (Out.ask ((0 : Int) ≤ (2 : Int)) (Out.ask ((0 : Int) ≤ (4 : Int)) (Out.ask ((0 : Int) ≤ (8 : Int)) (Out.ask ((0 : Int) ≤ (16 : Int)) (Out.ask ((0 : Int) ≤ (32 : Int)) (Out.done AE.ret { slots := [some (Value.int IntKind.i64 (ocI x))], heap := [] })))))) := by kernel_rfl
theorem q_oc : QOk K0.P 24 (listA [vK] aOc gOc) := list_qA K0_ok Try.func24 rfl rfl (no_loops rfl) fun cas r hb hk ha h => by
  unfold gOc at h
  split at h
  · rename_i x
    cases h
    refine ⟨rfl, ?_⟩
    show (evV K0 noL _ [.int .u64 x] []).sat _
    rw [run_oc]
    refine sat_ask (by decide) (sat_ask (by decide) (sat_ask (by decide) (sat_ask (by decide) (sat_ask (by decide) (sat_ask (by decide) (ret_i ?_))))))
    have hu : U x := ha
    obtain ⟨n, rfl, hn⟩ := hu.nat
    exact ocI_eq hn
  · cases h
theorem K1_ok : K1.Ok := K0_ok.addQ q_oc
theorem K2_ok : K2.Ok := K1_ok.addM (inl_ok K1_ok Try.func23 rfl rfl (no_loops rfl))
abbrev feH (T1 m : Nat) (g : Nat → List Value) : List AObj := [.recs ekK m g, .cells T1 [.slice (some ⟨0, 0, some 0⟩) m m]]
abbrev feS (m : Nat) (k : Int) : List Value := [.func (.func 23) ⟨[]⟩ ⟨[.pointer (some ⟨1, 0, none⟩)]⟩, .slice (some ⟨0, 0, some 0⟩) m m, .int .i64 m, .int .i64 k]
abbrev feR (T1 m : Nat) (g : Nat → List Value) (e : Int) : Out := .done .ret ⟨[some (.int .i64 e)], feH T1 m g⟩
abbrev feN (T1 m k : Nat) (g : Nat → List Value) : Out := .done .normal ⟨someL (feS m (IntKind.wrap .i64 ((k : Int) + 1))), feH T1 m g⟩
abbrev feX (k : Nat) (g : Nat → List Value) : Int := xorI (me (g k)) (me (g (IntKind.wrap .i64 ((k : Int) - 1)).toNat))
theorem run_feB (m k T1 : Nat) (g : Nat → List Value) : ev K2 noL (bodyOf Try.f22 0) ⟨mkSlots 23 [1, 8, 9, 10] (feS m k), feH T1 m g⟩ (pkG 23 keepFE 2) =
    tst (decide ((k : Int) < (m : Int))) (.ask ((0 : Int) ≤ (k : Int) ∧ (k : Int) < (m : Int)) (.ask (k < m) (tst (no (g k) != IntKind.wrap .i64 ((k : Int) + 1)) (feR T1 m g 4) (.ask ((0 : Int) ≤ 12) (tst (shrV .u64 (me (g k)) 12 != 0) (feR T1 m g 3) (tst (me (g k) == 0) (feR T1 m g 8)
      (tst (decide ((k : Int) > 0)) (.ask (0 ≤ IntKind.wrap .i64 ((k : Int) - 1) ∧ IntKind.wrap .i64 ((k : Int) - 1) < (m : Int)) (.ask ((IntKind.wrap .i64 ((k : Int) - 1)).toNat + 0 < m) (.ask (aOc [.val (.int .u64 (feX k g))]) (tst (((pc (feX k g).toNat : Nat) : Int) != 1) (feR T1 m g 1) (feN T1 m k g))))) (feN T1 m k g))))))))
      (.done (.exit 0) ⟨[], feH T1 m g⟩) := by kernel_rfl
theorem err4 {g : Nat → List Value} {j : Nat} (h : no (g j) ≠ (j : Int) + 1) : errAt g j = 4 := by
  unfold errAt
  rw [show (no (g j) != (j : Int) + 1) = true by simpa using h]
  rfl
theorem err3 {g : Nat → List Value} {j : Nat} (h : no (g j) = (j : Int) + 1) (h2 : 4096 ≤ me (g j)) : errAt g j = 3 := by
  unfold errAt
  rw [show (no (g j) != (j : Int) + 1) = false by simpa using h, show decide (4096 ≤ me (g j)) = true from decide_eq_true h2]
  rfl
theorem err8 {g : Nat → List Value} {j : Nat} (h : no (g j) = (j : Int) + 1) (h2 : me (g j) = 0) : errAt g j = 8 := by
  unfold errAt
  rw [show (no (g j) != (j : Int) + 1) = false by simpa using h, show decide (4096 ≤ me (g j)) = false from decide_eq_false (by omega), show (me (g j) == 0) = true by simpa using h2]
  rfl
theorem err1 {g : Nat → List Value} {j : Nat} (h : no (g j) = (j : Int) + 1) (h2 : ¬ 4096 ≤ me (g j)) (h3 : me (g j) ≠ 0) : errAt g j = bif decide (0 < j) && !Nat.beq (pc ((me (g j)).toNat ^^^ (me (g (j - 1))).toNat)) 1 then 1 else 0 := by
  unfold errAt
  rw [show (no (g j) != (j : Int) + 1) = false by simpa using h, show decide (4096 ≤ me (g j)) = false from decide_eq_false h2, show (me (g j) == 0) = false by simpa using h3]
  rfl
theorem shr12 {x : Int} (h : U x) : (shrV .u64 x 12 != 0) = decide (4096 ≤ x) := by
  obtain ⟨n, rfl, hn⟩ := h.nat
  have e := shr_nat n 12 (by decide)
  rw [show ((12 : Nat) : Int) = 12 from rfl, show 2 ^ 12 = 4096 from rfl] at e
  rw [e]
  by_cases h : 4096 ≤ n
  · rw [decide_eq_true (by omega)]
    have : (((n / 4096 : Nat) : Int)) ≠ 0 := by omega
    simpa using this
  · rw [decide_eq_false (by omega)]
    have : n / 4096 = 0 := by omega
    rw [this]
    rfl
theorem pred_at {k : Nat} (h : 0 < k) (hk : k < 140737488355328) : IntKind.wrap .i64 ((k : Int) - 1) = ((k - 1 : Nat) : Int) := by
  rw [IntKind.wrap_i64]
  omega
theorem xorI_toNat {x y : Int} (hx : U x) (hy : U y) : (xorI x y).toNat = x.toNat ^^^ y.toNat := by
  obtain ⟨a, rfl, ha⟩ := hx.nat
  obtain ⟨b, rfl, hb⟩ := hy.nat
  rw [xorI_nat ha hb]
  rfl
theorem loop_fe : LOk K2.P (bodyOf Try.f22 0) (lspec 23 keepFE 2 gFEL) := lspec_ok K2_ok (L := noL) (fun c' _ F h => by cases h) fun Φ vs H k hm0 h => by
  unfold gFEL at h
  split at h
  · rename_i f len c n i sh m0 g T l2 m
    split at h
    · rename_i hsh
      rw [Bool.and_eq_true, Nat.beq_eq] at hsh
      obtain ⟨hsh, rfl⟩ := hsh
      have := shEq_eq hsh
      subst this
      obtain ⟨⟨rfl, rfl, rfl, rfl, rfl, rfl, hb, hU⟩, h⟩ := h
      refine ⟨{j : Nat // j ≤ m ∧ firstE g j = 0}, fun i => feS m i.1, fun _ => feH T m g, fun i => m - i.1, ⟨0, by omega, rfl⟩, rfl, rfl, ?_⟩
      rintro ⟨j, hj, hz⟩
      show (ev K2 noL _ ⟨mkSlots 23 [1, 8, 9, 10] (feS m j), feH T m g⟩ (pkG 23 keepFE 2)).sat _
      rw [run_feB]
      refine sat_tst (fun ht => ?_) (fun ht => ?_)
      · have hlt : j < m := by have := of_decide_eq_true ht; omega
        have stop : ∀ e : Int, errAt g j = e → e ≠ 0 → ∃ vs' : List Value, [some (Value.int .i64 e)] = someL vs' ∧ (k .ret vs' (feH T m g)).sat Φ := fun e he h0 => by
          have e1 := firstE_stop hz (by rw [he]; exact h0) hlt
          rw [he] at e1
          rw [e1] at h
          have hb : (e != 0) = true := by simpa using h0
          rw [hb] at h
          exact ⟨_, rfl, h⟩
        have next : errAt g j = 0 → ∃ i' : {j : Nat // j ≤ m ∧ firstE g j = 0}, someL (feS m (IntKind.wrap .i64 ((j : Int) + 1))) = someL (feS m i'.1) ∧ feH T m g = feH T m g ∧ m - i'.1 < m - j := fun he => by
          refine ⟨⟨j + 1, by omega, firstE_step hz he⟩, ?_, rfl, by show m - (j + 1) < m - j; omega⟩
          rw [wrap_at hlt (by omega)]
        have hu := hU j hlt
        refine sat_ask ⟨by omega, by omega⟩ (sat_ask hlt (sat_tst (fun h1 => ?_) fun h1 => ?_))
        · rw [wrap_at hlt (by omega)] at h1
          exact stop 4 (err4 (by simpa using h1)) (by decide)
        · rw [wrap_at hlt (by omega)] at h1
          have h1 : no (g j) = (j : Int) + 1 := by simpa using h1
          refine sat_ask (by decide) ?_
          rw [shr12 hu]
          refine sat_tst (fun h2 => ?_) fun h2 => ?_
          · exact stop 3 (err3 h1 (of_decide_eq_true h2)) (by decide)
          · have h2 := of_decide_eq_false h2
            refine sat_tst (fun h3 => ?_) fun h3 => ?_
            · exact stop 8 (err8 h1 (by simpa using h3)) (by decide)
            · have h3 : me (g j) ≠ 0 := by simpa using h3
              have he := err1 h1 h2 h3
              refine sat_tst (fun h4 => ?_) fun h4 => ?_
              · have h4 : 0 < j := by have := of_decide_eq_true h4; omega
                have ep := pred_at h4 (by omega)
                have hu2 := hU (j - 1) (by omega)
                have ex : feX j g = xorI (me (g j)) (me (g (j - 1))) := by unfold feX; rw [ep]; rfl
                rw [ep, ex]
                refine sat_ask ⟨by omega, by omega⟩ (sat_ask (by show j - 1 + 0 < m; omega) (sat_ask (wrap_U _) ?_))
                rw [xorI_toNat hu hu2]
                rw [decide_eq_true h4] at he
                refine sat_tst (fun h5 => ?_) fun h5 => ?_
                · refine stop 1 (he.trans ?_) (by decide)
                  have h5 : ((pc ((me (g j)).toNat ^^^ (me (g (j - 1))).toNat) : Nat) : Int) ≠ 1 := by simpa using h5
                  rw [show Nat.beq (pc ((me (g j)).toNat ^^^ (me (g (j - 1))).toNat)) 1 = false from by
                    cases hq : Nat.beq (pc ((me (g j)).toNat ^^^ (me (g (j - 1))).toNat)) 1 with
                    | false => rfl
                    | true => rw [Nat.beq_eq] at hq; omega]
                  rfl
                · refine next (he.trans ?_)
                  have h5 : ((pc ((me (g j)).toNat ^^^ (me (g (j - 1))).toNat) : Nat) : Int) = 1 := by simpa using h5
                  rw [show pc ((me (g j)).toNat ^^^ (me (g (j - 1))).toNat) = 1 by omega]
                  rfl
              · have h4 : ¬ 0 < j := by have := of_decide_eq_false h4; omega
                rw [decide_eq_false h4] at he
                exact next he
      · have hge : j = m := by have := of_decide_eq_false ht; omega
        subst hge
        rw [hz] at h
        exact ⟨[], rfl, h⟩
    · exact h.elim
  · exact h.elim
theorem lFE_ok : ∀ F, lFE (key (bodyOf Try.f22 0)) = some F → LOk K2.P (bodyOf Try.f22 0) F := fun F h => by
  have hk : lFE (key (bodyOf Try.f22 0)) = some (lspec 23 keepFE 2 gFEL) := by kernel_rfl
  rw [hk] at h
  cases h
  exact loop_fe
theorem K3_ok : K3.Ok := K2_ok.addM (inl_ok K2_ok Try.func22 rfl rfl (one_loop (by kernel_rfl) lFE_ok))
theorem run_ck (m : Nat) (g : Nat → List Value) : evV K3 noL Try.f15 [.slice (some ⟨0, 0, some 0⟩) m m] [.recs ekK m g] = tst (decide ((m : Int) > (64 : Int))) (Out.done AE.ret { slots := [some (Value.int IntKind.i64 (2 : Int))], heap := [] }) (Out.ask (m = m ∧ m = m ∧ (m : Int) = (m : Int) ∧ (0 : Int) = (0 : Int) ∧ m = m ∧ m = m ∧ m ≤ (64 : Nat) ∧ RU m g) (tst (firstE g m != (0 : Int)) (Out.done AE.ret { slots := [some (Value.int IntKind.i64 (firstE g m))], heap := [] }) (Out.done AE.ret { slots := [some (Value.int IntKind.i64 (0 : Int))], heap := [] }))) := by kernel_rfl
theorem q_ck : QOk K3.P 15 (listA [.one (.rows ekK)] aCk gCk) := list_qA K3_ok Try.func15 rfl rfl (no_loops rfl) fun cas r hb hk ha h => by
  unfold gCk at h
  split at h
  · rename_i sh m g
    obtain ⟨rfl, -⟩ := hk
    cases h
    refine ⟨rfl, ?_⟩
    show (evV K3 noL _ [.slice (some ⟨0, 0, some 0⟩) m m] [.recs ekK m g]).sat _
    rw [run_ck]
    unfold chE
    refine sat_tst (fun h => ret_i ?_) fun h0 => ?_
    · rw [show decide (64 < m) = true from decide_eq_true (by have := of_decide_eq_true h; omega)]
      rfl
    · have h0 := of_decide_eq_false h0
      rw [show decide (64 < m) = false from decide_eq_false (by omega)]
      refine sat_ask ⟨rfl, rfl, rfl, rfl, rfl, rfl, by omega, ha⟩ (sat_tst (fun h => rfl) fun h => ret_i ?_)
      have h : firstE g m = 0 := by simpa using h
      exact h.symm
  · cases h
noncomputable def K4 : Kn := K3.addQ 15 (listA [.one (.rows ekK)] aCk gCk)
theorem K4_ok : K4.Ok := K3_ok.addQ q_ck
end Go.Proofs.Ytnpdpbiikejflaa
