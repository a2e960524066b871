/- What majorities answer of sets; small functions of seats, by symbolic runs. -/
import Derived.Test.YtpkckgdpdnkbeaaXf
namespace Go.Proofs.Ytpkckgdpdnkbeaa
open Go.RowKit
-- @file xf.out
theorem run_sumB (m k T1 T2 : Nat) (s z : Int) (g : Nat → List Value) : ev K10 noL (bodyOf Try.f42 0) ⟨mkSlots 33 [2, 3, 7, 16, 17, 18] [.pointer (some ⟨1, 0, none⟩), .pointer (some ⟨2, 0, none⟩), .int .i64 z, .slice (some ⟨0, 0, some 0⟩) m m, .int .i64 m, .int .i64 k], [.recs wtK m g, .cells T1 [.slice (some ⟨0, 0, some 0⟩) m m], .cells T2 [.int .u64 s]]⟩ (pkG 33 keepSum 3) = tst (decide ((↑k : Int) < (↑m : Int))) (Out.ask ((0 : Int) ≤ (↑k : Int) ∧ (↑k : Int) < (↑m : Int)) (Out.ask (k < m) (Out.ask ((0 : Int) ≤ (↑k : Int)) (tst (IntKind.wrap IntKind.u64 (↑(BitVec.toNat (BitVec.ofInt (IntKind.bits IntKind.u64) (shrV IntKind.u64 s (↑k : Int)) &&& BitVec.ofInt (IntKind.bits IntKind.u64) (1 : Int))) : Int) == (1 : Int)) (Out.done AE.normal { slots := [some (Value.pointer (some { block := (1 : Nat), off := (0 : Nat) })), some (Value.pointer (some { block := (2 : Nat), off := (0 : Nat) })), some (Value.int IntKind.i64 (IntKind.wrap IntKind.i64 (z + intV (hdV (g k))))), some (Value.slice (some { block := (0 : Nat), off := (0 : Nat), spot := some (0 : Nat) }) m m), some (Value.int IntKind.i64 (↑m : Int)), some (Value.int IntKind.i64 (IntKind.wrap IntKind.i64 ((↑k : Int) + (1 : Int))))], heap := [AObj.recs wtK m g, AObj.cells T1 [Value.slice (some { block := (0 : Nat), off := (0 : Nat), spot := some (0 : Nat) }) m m], AObj.cells T2 [Value.int IntKind.u64 s]] }) (Out.done AE.normal { slots := [some (Value.pointer (some { block := (1 : Nat), off := (0 : Nat) })), some (Value.pointer (some { block := (2 : Nat), off := (0 : Nat) })), some (Value.int IntKind.i64 z), some (Value.slice (some { block := (0 : Nat), off := (0 : Nat), spot := some (0 : Nat) }) m m), some (Value.int IntKind.i64 (↑m : Int)), some (Value.int IntKind.i64 (IntKind.wrap IntKind.i64 ((↑k : Int) + (1 : Int))))], heap := [AObj.recs wtK m g, AObj.cells T1 [Value.slice (some { block := (0 : Nat), off := (0 : Nat), spot := some (0 : Nat) }) m m], AObj.cells T2 [Value.int IntKind.u64 s]] }))))) (Out.done (AE.exit (0 : Nat)) { slots := [some (Value.int IntKind.i64 z)], heap := [AObj.recs wtK m g, AObj.cells T1 [Value.slice (some { block := (0 : Nat), off := (0 : Nat), spot := some (0 : Nat) }) m m], AObj.cells T2 [Value.int IntKind.u64 s]] }) := by kernel_rfl
theorem run_sum (m : Nat) (s : Int) (g : Nat → List Value) : evV K10 lSum Try.f42 [.slice (some ⟨0, 0, some 0⟩) m m, .int .u64 s] [.recs wtK m g] = tst ((↑m : Int) == (0 : Int)) (Out.done AE.ret { slots := [some (Value.tuple { toList := [Value.int IntKind.i64 (0 : Int), Value.int IntKind.i64 (8 : Int)] })], heap := [] }) (tst (decide ((↑m : Int) > (12 : Int))) (Out.done AE.ret { slots := [some (Value.tuple { toList := [Value.int IntKind.i64 (0 : Int), Value.int IntKind.i64 (2 : Int)] })], heap := [] }) (Out.ask (m ≤ m ∧ m ≤ (140737488355328 : Nat)) (tst (anyB (wsOf m fun j => g j)) (Out.done AE.ret { slots := [some (Value.tuple { toList := [Value.int IntKind.i64 (0 : Int), Value.int IntKind.i64 (3 : Int)] })], heap := [] }) (Out.ask (m ≤ m ∧ m ≤ (140737488355328 : Nat)) (Out.ask (aTotal [CA.rows wtK m fun j => g j]) (Out.ask ((0 : Int) ≤ (↑m : Int)) (tst (shrV IntKind.u64 s (↑m : Int) != (0 : Int)) (Out.done AE.ret { slots := [some (Value.tuple { toList := [Value.int IntKind.i64 (0 : Int), Value.int IntKind.i64 (3 : Int)] })], heap := [] }) (Out.ask ((0 : Int) = (0 : Int) ∧ m = m ∧ m = m ∧ m = m ∧ m = m ∧ (↑m : Int) = (↑m : Int) ∧ (0 : Int) = (0 : Int) ∧ m ≤ (12 : Nat) ∧ anyB (wsOf m g) = false) (Out.done AE.ret { slots := [some (Value.tuple { toList := [Value.int IntKind.i64 (smK (wsOf m g) s m), Value.int IntKind.i64 (0 : Int)] })], heap := [] }))))))))) := by kernel_rfl
-- @end
theorem loop_sum : LOk K10.P (bodyOf Try.f42 0) (lspec 33 keepSum 3 gSumL) := lspec_ok K10_ok (L := noL) (fun c' _ F h => by cases h) fun Φ vs H k hm0 h => by
  unfold gSumL at h
  split at h
  · rename_i z len c n i sh m0 g T1 len1 m T2 s
    split at h
    · rename_i hsh
      have := shEq_eq hsh
      subst this
      obtain ⟨⟨rfl, rfl, rfl, rfl, rfl, rfl, rfl, hb, hany⟩, h⟩ := h
      refine ⟨{j : Nat // j ≤ m}, fun i => [.pointer (some ⟨1, 0, none⟩), .pointer (some ⟨2, 0, none⟩), .int .i64 (smK (wsOf m g) s i.1), .slice (some ⟨0, 0, some 0⟩) m m, .int .i64 m, .int .i64 i.1], fun _ => [.recs wtK m g, .cells T1 [.slice (some ⟨0, 0, some 0⟩) m m], .cells T2 [.int .u64 s]], fun i => m - i.1, ⟨0, by omega⟩, rfl, rfl, ?_⟩
      rintro ⟨j, hj⟩
      show (ev K10 noL _ ⟨mkSlots 33 [2, 3, 7, 16, 17, 18] [.pointer (some ⟨1, 0, none⟩), .pointer (some ⟨2, 0, none⟩), .int .i64 (smK (wsOf m g) s j), .slice (some ⟨0, 0, some 0⟩) m m, .int .i64 m, .int .i64 j], [.recs wtK m g, .cells T1 [.slice (some ⟨0, 0, some 0⟩) m m], .cells T2 [.int .u64 s]]⟩ (pkG 33 keepSum 3)).sat _
      rw [run_sumB]
      refine sat_tst (fun ht => ?_) (fun ht => ?_)
      · have hlt : j < m := by have := of_decide_eq_true ht; omega
        have hat := ws_at g hlt
        have hle := sm_le hany s (j + 1) (by rw [ws_len]; omega)
        refine sat_ask ⟨by omega, by omega⟩ (sat_ask hlt (sat_ask (by omega) (sat_tst (fun hc => ?_) (fun hc => ?_))))
        · refine ⟨⟨j + 1, by omega⟩, ?_, rfl, by show m - (j + 1) < m - j; omega⟩
          show [some _, some _, some (Value.int .i64 _), some _, some _, some (Value.int .i64 _)] = [some _, some _, some (Value.int .i64 (smK (wsOf m g) s (j + 1))), some _, some _, some (Value.int .i64 _)]
          have hc' : btR s (j : Int) = 1 := by simpa [btR] using hc
          have e : smK (wsOf m g) s (j + 1) = smK (wsOf m g) s j + (wsOf m g)[j]?.getD 0 := by
            show (if _ then _ else _) = _
            rw [if_pos hc']
          rw [e] at hle ⊢
          rw [wrap_at hlt (by omega), ← hat, wrap_small (by omega) (by omega)]
        · refine ⟨⟨j + 1, by omega⟩, ?_, rfl, by show m - (j + 1) < m - j; omega⟩
          show [some _, some _, some (Value.int .i64 _), some _, some _, some (Value.int .i64 _)] = [some _, some _, some (Value.int .i64 (smK (wsOf m g) s (j + 1))), some _, some _, some (Value.int .i64 _)]
          have hc' : ¬ btR s (j : Int) = 1 := by simpa [btR] using hc
          have e : smK (wsOf m g) s (j + 1) = smK (wsOf m g) s j := by
            show (if _ then _ else _) = _
            rw [if_neg hc']
          rw [e, wrap_at hlt (by omega)]
      · have hge : j = m := by have := of_decide_eq_false ht; omega
        subst hge
        exact ⟨_, rfl, h⟩
    · exact h.elim
  · exact h.elim
theorem lSum_ok : ∀ F, lSum (key (bodyOf Try.f42 0)) = some F → LOk K10.P (bodyOf Try.f42 0) F := fun F h => by
  have hk : lSum (key (bodyOf Try.f42 0)) = some (lspec 33 keepSum 3 gSumL) := by kernel_rfl
  rw [hk] at h
  cases h
  exact loop_sum
theorem q_sum : QOk K10.P 42 (listC [.one (.rows wtK), vK] gSum) := list_q K10_ok Try.func42 rfl rfl (one_loop (by kernel_rfl) lSum_ok) fun cas r hb hk h => by
  unfold gSum at h
  split at h
  · rename_i sh m g s
    obtain ⟨rfl, -⟩ := hk
    obtain ⟨hb, -⟩ := hb
    cases h
    refine ⟨rfl, ?_⟩
    show (evV K10 lSum _ [.slice (some ⟨0, 0, some 0⟩) m m, .int .u64 s] [.recs wtK m g]).sat _
    rw [run_sum]
    have hl := ws_len m g
    have bad : ∀ e : Int, e ≠ 0 → wE (wsOf m g) = e → (Value.tuple ⟨[.int .i64 (sV (wsOf m g) s), .int .i64 (sE (wsOf m g) s)]⟩) = .tuple ⟨[.int .i64 0, .int .i64 e]⟩ := fun e h0 h => by
      have h1 : sE (wsOf m g) s = e := by unfold sE; rw [h, if_pos h0]
      unfold sV
      rw [h1, if_neg h0]
    refine sat_tst (fun h => leaf_v (bad 8 (by decide) ?_)) fun h0 => sat_tst (fun h => leaf_v (bad 2 (by decide) ?_)) fun h1 => sat_ask ⟨Nat.le_refl _, hb⟩ (sat_tst (fun h => leaf_v (bad 3 (by decide) ?_)) fun h2 => sat_ask ⟨Nat.le_refl _, hb⟩ (sat_ask ⟨by have := of_decide_eq_false h1; omega, h2⟩ (sat_ask (by omega) ?_)))
    · have e : m = 0 := by simpa using h
      unfold wE; rw [if_pos (by omega)]
    · have e : m ≠ 0 := by simpa using h0
      have h := of_decide_eq_true h
      unfold wE; rw [if_neg (by omega), if_pos (by omega)]
    · have e : m ≠ 0 := by simpa using h0
      have h1 := of_decide_eq_false h1
      unfold wE; rw [if_neg (by omega), if_neg (by omega), if_pos h]
    · have e : m ≠ 0 := by simpa using h0
      have h1 := of_decide_eq_false h1
      have h2 : anyB (wsOf m g) = false := h2
      have hw : wE (wsOf m g) = 0 := wE_good (by omega) (by omega) h2
      have hs : sE (wsOf m g) s = if shrV .u64 s (m : Int) ≠ 0 then 3 else 0 := by unfold sE; rw [hw, if_neg (by decide), hl]
      refine sat_tst (fun h => leaf_v ?_) fun h => sat_ask ⟨rfl, rfl, rfl, rfl, rfl, rfl, rfl, by omega, h2⟩ (leaf_v ?_)
      · have h3 : shrV .u64 s (m : Int) ≠ 0 := by simpa using h
        have h4 : sE (wsOf m g) s = 3 := by rw [hs, if_pos h3]
        unfold sV
        rw [h4, if_neg (by decide)]
      · have h3 : shrV .u64 s (m : Int) = 0 := by simpa using h
        have h4 : sE (wsOf m g) s = 0 := by rw [hs, if_neg (by rw [h3]; decide)]
        unfold sV
        rw [h4, if_pos rfl, hl]
  · cases h
theorem K11_ok : K11.Ok := (K10_ok.addQ q_qcheck).addQ q_sum
end Go.Proofs.Ytpkckgdpdnkbeaa
