/- Sets, majorities, who is common, by symbolic runs. -/
import Derived.Test.YtnpdpbiikejflaaEd
namespace Go.Proofs.Ytnpdpbiikejflaa
open Go.RowKit
-- @file ee.out
theorem run_in (x n : Int) : evV K4 noL Try.f20 [.int .u64 x, .int .i64 n] [] = Out.ask ((0 : Int) ≤ n) (Out.ask ((2 : Int) ≠ (0 : Int) ∧ IntKind.u64 = IntKind.u64) (Out.done AE.ret { slots := [some (Value.bool (Int.tmod (shrV IntKind.u64 x n) (2 : Int) == (1 : Int)))], heap := [] })) := by kernel_rfl
theorem run_szB (x n : Int) (k : Nat) : ev K5 noL (bodyOf Try.f19 0) ⟨mkSlots 15 [0, 3, 4] [.int .u64 x, .int .i64 n, .int .i64 k], []⟩ (pkG 15 keepSz 0) = tst (decide ((↑k : Int) < (64 : Int))) (Out.ask (aIn [CA.val (Value.int IntKind.u64 x), CA.val (Value.int IntKind.i64 (↑k : Int))]) (tst (Nat.testBit (Int.toNat x) k) (Out.done AE.normal { slots := [some (Value.int IntKind.u64 x), some (Value.int IntKind.i64 (IntKind.wrap IntKind.i64 (n + (1 : Int)))), some (Value.int IntKind.i64 (IntKind.wrap IntKind.i64 ((↑k : Int) + (1 : Int))))], heap := [] }) (Out.done AE.normal { slots := [some (Value.int IntKind.u64 x), some (Value.int IntKind.i64 n), some (Value.int IntKind.i64 (IntKind.wrap IntKind.i64 ((↑k : Int) + (1 : Int))))], heap := [] }))) (Out.done (AE.exit (0 : Nat)) { slots := [some (Value.int IntKind.i64 n)], heap := [] }) := by kernel_rfl
theorem run_sz (x : Int) : evV K5 lSz Try.f19 [.int .u64 x] [] = Out.ask ((0 : Int) = (0 : Int) ∧ (0 : Int) = (0 : Int) ∧ U x) (Out.done AE.ret { slots := [some (Value.int IntKind.i64 (↑(pc (Int.toNat x)) : Int))], heap := [] }) := by kernel_rfl
theorem run_mj (n x s : Int) : evV K6 noL Try.f17 [.agg ⟨[.int .i64 n, .int .u64 x]⟩, .int .u64 s] [] = Out.ask (aOc [CA.val (Value.int IntKind.u64 (IntKind.wrap IntKind.u64 (↑(BitVec.toNat (BitVec.ofInt (IntKind.bits IntKind.u64) x &&& BitVec.ofInt (IntKind.bits IntKind.u64) s)) : Int)))]) (Out.ask (aOc [CA.val (Value.int IntKind.u64 x)]) (Out.done AE.ret { slots := [some (Value.bool (decide (IntKind.wrap IntKind.i64 ((2 : Int) * (↑(pc (Int.toNat (IntKind.wrap IntKind.u64 (↑(BitVec.toNat (BitVec.ofInt (IntKind.bits IntKind.u64) x &&& BitVec.ofInt (IntKind.bits IntKind.u64) s)) : Int)))) : Int)) > (↑(pc (Int.toNat x)) : Int))))], heap := [] })) := by kernel_rfl
theorem run_at (m : Nat) (g : Nat → List Value) (n : Int) : evV K7 noL Try.f9 [.slice (some ⟨0, 0, some 0⟩) m m, .int .i64 n] [.recs ekK m g] = Out.ask (m ≤ m ∧ m ≤ (140737488355328 : Nat)) (Out.ask (aCk [CA.rows ekK m fun j => g j]) (tst ((chE m fun j => g j) != (0 : Int)) (Out.done AE.ret { slots := [some (Value.tuple { toList := [Value.agg { toList := [Value.int IntKind.i64 (0 : Int), Value.int IntKind.u64 (0 : Int)] }, Value.int IntKind.i64 (chE m fun j => g j)] })], heap := [] }) (tst (decide (n < (1 : Int))) (Out.done AE.ret { slots := [some (Value.tuple { toList := [Value.agg { toList := [Value.int IntKind.i64 (0 : Int), Value.int IntKind.u64 (0 : Int)] }, Value.int IntKind.i64 (5 : Int)] })], heap := [] }) (tst (decide (n > (↑m : Int))) (Out.done AE.ret { slots := [some (Value.tuple { toList := [Value.agg { toList := [Value.int IntKind.i64 (0 : Int), Value.int IntKind.u64 (0 : Int)] }, Value.int IntKind.i64 (5 : Int)] })], heap := [] }) (Out.ask ((0 : Int) ≤ IntKind.wrap IntKind.i64 (n - (1 : Int)) ∧ IntKind.wrap IntKind.i64 (n - (1 : Int)) < (↑m : Int)) (Out.ask (Int.toNat (IntKind.wrap IntKind.i64 (n - (1 : Int))) + (0 : Nat) < m) (Out.done AE.ret { slots := [some (Value.tuple { toList := [Value.agg { toList := [Value.int IntKind.i64 (intV (hdV (g (Int.toNat (IntKind.wrap IntKind.i64 (n - (1 : Int))) + (0 : Nat))))), Value.int IntKind.u64 (intV (hdV (tlV (g (Int.toNat (IntKind.wrap IntKind.i64 (n - (1 : Int))) + (0 : Nat))))))] }, Value.int IntKind.i64 (0 : Int)] })], heap := [] }))))))) := by kernel_rfl
theorem run_coB (m k l : Nat) (g : Nat → List Value) (x : Int) : ev K8 noL (bodyOf Try.f10 0) ⟨mkSlots 35 [5, 23, 24, 25] [.int .u64 x, .slice (some ⟨0, 0, some 1⟩) l l, .int .i64 l, .int .i64 k], [.recs ekK m g]⟩ (pkG 35 keepCom 1) = tst (decide ((↑k : Int) < (↑l : Int))) (Out.ask ((0 : Int) ≤ (↑k : Int) ∧ (↑k : Int) < (↑l : Int)) (Out.ask (k + (1 : Nat) < m) (Out.done AE.normal { slots := [some (Value.int IntKind.u64 (IntKind.wrap IntKind.u64 (↑(BitVec.toNat (BitVec.ofInt (IntKind.bits IntKind.u64) x &&& BitVec.ofInt (IntKind.bits IntKind.u64) (intV (hdV (tlV (g (Int.toNat (↑k : Int) + (1 : Nat)))))))) : Int))), some (Value.slice (some { block := (0 : Nat), off := (0 : Nat), spot := some (1 : Nat) }) l l), some (Value.int IntKind.i64 (↑l : Int)), some (Value.int IntKind.i64 (IntKind.wrap IntKind.i64 ((↑k : Int) + (1 : Int))))], heap := [AObj.recs ekK m g] }))) (Out.done (AE.exit (0 : Nat)) { slots := [some (Value.int IntKind.u64 x)], heap := [AObj.recs ekK m g] }) := by kernel_rfl
theorem run_co (m : Nat) (g : Nat → List Value) : evV K8 lCo Try.f10 [.slice (some ⟨0, 0, some 0⟩) m m] [.recs ekK m g] = Out.ask (m ≤ m ∧ m ≤ (140737488355328 : Nat)) (Out.ask (aCk [CA.rows ekK m fun j => g j]) (tst ((chE m fun j => g j) != (0 : Int)) (Out.done AE.ret { slots := [some (Value.tuple { toList := [Value.int IntKind.u64 (0 : Int), Value.int IntKind.i64 (chE m fun j => g j)] })], heap := [] }) (tst ((↑m : Int) == (0 : Int)) (Out.done AE.ret { slots := [some (Value.tuple { toList := [Value.int IntKind.u64 (0 : Int), Value.int IntKind.i64 (chE m fun j => g j)] })], heap := [] }) (Out.ask ((0 : Int) ≤ (0 : Int) ∧ (0 : Int) < (↑m : Int)) (Out.ask ((0 : Nat) < m) (Out.ask ((0 : Int) ≤ (1 : Int) ∧ (1 : Int) ≤ (↑m : Int)) (Out.ask (intV (hdV (tlV (g (0 : Nat)))) = me (g (0 : Nat)) ∧ m - (1 : Nat) + (1 : Nat) = m ∧ m - (1 : Nat) = m - (1 : Nat) ∧ (↑(m - Int.toNat (1 : Int)) : Int) = (↑(m - Int.toNat (1 : Int)) : Int) ∧ (0 : Int) = (0 : Int) ∧ m ≤ (64 : Nat) ∧ RU m g) (Out.done AE.ret { slots := [some (Value.tuple { toList := [Value.int IntKind.u64 (↑(andK g m) : Int), Value.int IntKind.i64 (0 : Int)] })], heap := [] })))))))) := by kernel_rfl
-- @end
theorem shr_U {x n : Int} (hx : U x) (hn : 0 ≤ n) : Int.tmod (shrV .u64 x n) 2 = (x.toNat / 2 ^ n.toNat % 2 : Nat) := by
  obtain ⟨a, rfl, ha⟩ := hx.nat
  obtain ⟨b, rfl⟩ : ∃ b : Nat, n = b := ⟨n.toNat, by omega⟩
  simp only [Int.toNat_natCast]
  have key : shrV .u64 (a : Int) (b : Int) = ((a / 2 ^ b : Nat) : Int) := by
    by_cases h : b ≤ 64
    · exact shr_nat a b h
    · have h0 : a / 2 ^ b = 0 := Nat.div_eq_of_lt (Nat.lt_of_lt_of_le (show a < 2 ^ 64 from ha) (Nat.pow_le_pow_right (n := 2) (by decide) (show 64 ≤ b by omega)))
      rw [h0]
      unfold shrV
      rw [show min ((b : Int).toNat) (IntKind.bits .u64) = 64 from by rw [Int.toNat_natCast]; exact Nat.min_eq_right (by show 64 ≤ b; omega)]
      rw [Int.fdiv_eq_ediv_of_nonneg _ (by decide)]
      have : (2 : Int) ^ 64 = 18446744073709551616 := by decide
      rw [this]
      omega
  rw [key]
  rfl
theorem tb_mod (a b : Nat) : a.testBit b = (a / 2 ^ b % 2 == 1) := by
  rw [Nat.testBit_eq_decide_div_mod_eq]
  rfl
theorem q_in : QOk K4.P 20 (listA [vK, vK] aIn gIn) := list_qA K4_ok Try.func20 rfl rfl (no_loops rfl) fun cas r hb hk ha h => by
  unfold gIn at h
  split at h
  · rename_i x n
    cases h
    refine ⟨rfl, ?_⟩
    show (evV K4 noL _ [.int .u64 x, .int .i64 n] []).sat _
    rw [run_in]
    obtain ⟨hx, hn⟩ : U x ∧ 0 ≤ n := ha
    refine sat_ask hn (sat_ask ⟨by decide, rfl⟩ (ret_b ?_))
    rw [shr_U hx hn, tb_mod]
    have h2 : x.toNat / 2 ^ n.toNat % 2 = 0 ∨ x.toNat / 2 ^ n.toNat % 2 = 1 := by omega
    rcases h2 with e | e <;> rw [e] <;> rfl
  · cases h
theorem K5_ok : K5.Ok := K4_ok.addQ q_in
theorem wrap_inc {k : Nat} (h : k < 9223372036854775807) : IntKind.wrap .i64 ((k : Int) + 1) = ((k + 1 : Nat) : Int) := by
  rw [IntKind.wrap_i64]
  omega
theorem loop_sz : LOk K5.P (bodyOf Try.f19 0) (lspec 15 keepSz 0 gSzL) := lspec_ok K5_ok (L := noL) (fun c' _ F h => by cases h) fun Φ vs H k hm0 h => by
  unfold gSzL at h
  split at h
  · rename_i x n i
    obtain ⟨⟨rfl, rfl, hU⟩, h⟩ := h
    refine ⟨{j : Nat // j ≤ 64}, fun i => [.int .u64 x, .int .i64 (cnt x.toNat.testBit i.1), .int .i64 i.1], fun _ => [], fun i => 64 - i.1, ⟨0, by omega⟩, rfl, rfl, ?_⟩
    rintro ⟨j, hj⟩
    show (ev K5 noL _ ⟨mkSlots 15 [0, 3, 4] [.int .u64 x, .int .i64 (cnt x.toNat.testBit j), .int .i64 j], []⟩ (pkG 15 keepSz 0)).sat _
    rw [run_szB]
    have hc := cnt_le x.toNat.testBit j
    refine sat_tst (fun ht => ?_) (fun ht => ?_)
    · have hlt : j < 64 := by have := of_decide_eq_true ht; omega
      refine sat_ask ⟨hU, by omega⟩ (sat_tst (fun hb => ?_) (fun hb => ?_))
      · refine ⟨⟨j + 1, by omega⟩, ?_, rfl, by show 64 - (j + 1) < 64 - j; omega⟩
        show [some _, some (Value.int .i64 _), some (Value.int .i64 _)] = [some _, some (Value.int .i64 ((cnt x.toNat.testBit j + (x.toNat.testBit j).toNat : Nat) : Int)), some _]
        rw [hb, wrap_inc (by omega), wrap_inc (by omega)]
        rfl
      · refine ⟨⟨j + 1, by omega⟩, ?_, rfl, by show 64 - (j + 1) < 64 - j; omega⟩
        show [some _, some (Value.int .i64 _), some (Value.int .i64 _)] = [some _, some (Value.int .i64 ((cnt x.toNat.testBit j + (x.toNat.testBit j).toNat : Nat) : Int)), some _]
        rw [hb, wrap_inc (by omega)]
        rfl
    · have hge : j = 64 := by have := of_decide_eq_false ht; omega
      subst hge
      exact ⟨_, rfl, h⟩
  · exact h.elim
theorem lSz_ok : ∀ F, lSz (key (bodyOf Try.f19 0)) = some F → LOk K5.P (bodyOf Try.f19 0) F := fun F h => by
  have hk : lSz (key (bodyOf Try.f19 0)) = some (lspec 15 keepSz 0 gSzL) := by kernel_rfl
  rw [hk] at h
  cases h
  exact loop_sz
theorem q_sz : QOk K5.P 19 (listA [vK] aOc gOc) := list_qA K5_ok Try.func19 rfl rfl (one_loop (by kernel_rfl) lSz_ok) fun cas r hb hk ha h => by
  unfold gOc at h
  split at h
  · rename_i x
    cases h
    refine ⟨rfl, ?_⟩
    show (evV K5 lSz _ [.int .u64 x] []).sat _
    rw [run_sz]
    exact sat_ask ⟨rfl, rfl, ha⟩ rfl
  · cases h
theorem K6_ok : K6.Ok := K5_ok.addQ q_sz
theorem andI_U {x y : Int} (hx : U x) (hy : U y) : (andI x y).toNat = x.toNat &&& y.toNat := by
  obtain ⟨a, rfl, ha⟩ := hx.nat
  obtain ⟨b, rfl, hb⟩ := hy.nat
  rw [andI_nat ha hb]
  rfl
theorem q_mj : QOk K6.P 17 (listA [vK, vK] aMj gMj) := list_qA K6_ok Try.func17 rfl rfl (no_loops rfl) fun cas r hb hk ha h => by
  unfold gMj at h
  split at h
  · rename_i n x s
    cases h
    refine ⟨rfl, ?_⟩
    show (evV K6 noL _ [.agg ⟨[.int .i64 n, .int .u64 x]⟩, .int .u64 s] []).sat _
    rw [run_mj]
    obtain ⟨hx, hs⟩ : U x ∧ U s := ha
    refine sat_ask (wrap_U _) (sat_ask hx (ret_b ?_))
    have e := andI_U hx hs
    show decide (IntKind.wrap .i64 ((2 : Int) * ((pc (andI x s).toNat : Nat) : Int)) > _) = _
    rw [e]
    have h1 := pc_le (x.toNat &&& s.toNat)
    rw [IntKind.wrap_i64]
    simp only [decide_eq_decide]
    omega
  · cases h
theorem K7_ok : K7.Ok := K6_ok.addQ q_mj
theorem q_at : QOk K7.P 9 (listA [.one (.rows ekK), vK] aRow1 gAt) := list_qA K7_ok Try.func9 rfl rfl (no_loops rfl) fun cas r hb hk ha h => by
  unfold gAt at h
  split at h
  · rename_i sh m g n
    obtain ⟨rfl, -⟩ := hk
    obtain ⟨hb, -⟩ := hb
    cases h
    refine ⟨rfl, ?_⟩
    show (evV K7 noL _ [.slice (some ⟨0, 0, some 0⟩) m m, .int .i64 n] [.recs ekK m g]).sat _
    rw [run_at]
    unfold atN atM
    have eta : (chE m fun j => g j) = chE m g := rfl
    rw [eta]
    refine sat_ask ⟨Nat.le_refl _, hb⟩ (sat_ask ha (sat_tst (fun h0 => ?_) fun h0 => sat_tst (fun h1 => ?_) fun h1 => sat_tst (fun h2 => ?_) fun h2 => ?_))
    · have e : atE m g n = chE m g := by unfold atE; rw [h0]; rfl
      rw [e, h0]
      rfl
    · have e : atE m g n = 5 := by unfold atE; rw [h0, h1]; rfl
      rw [e]
      rfl
    · have e : atE m g n = 5 := by unfold atE; rw [h0, h1, h2]; rfl
      rw [e]
      rfl
    · have e : atE m g n = 0 := by unfold atE; rw [h0, h1, h2]; rfl
      rw [e]
      have h1 := of_decide_eq_false h1
      have h2 := of_decide_eq_false h2
      have ew : IntKind.wrap .i64 (n - 1) = n - 1 := by rw [IntKind.wrap_i64]; omega
      rw [ew]
      exact sat_ask ⟨by omega, by omega⟩ (sat_ask (by show (n - 1).toNat + 0 < m; omega) rfl)
  · cases h
theorem K8_ok : K8.Ok := K7_ok.addQ q_at
theorem loop_co : LOk K8.P (bodyOf Try.f10 0) (lspec 35 keepCom 1 gCoL) := lspec_ok K8_ok (L := noL) (fun c' _ F h => by cases h) fun Φ vs H k hm0 h => by
  unfold gCoL at h
  split at h
  · rename_i x l c n i sh m g
    split at h
    · rename_i hsh
      have := shEq_eq hsh
      subst this
      obtain ⟨⟨rfl, rfl, rfl, rfl, rfl, hb, hU⟩, h⟩ := h
      refine ⟨{j : Nat // j ≤ c}, fun i => [.int .u64 (andK g (i.1 + 1)), .slice (some ⟨0, 0, some 1⟩) c c, .int .i64 c, .int .i64 i.1], fun _ => [.recs ekK (c + 1) g], fun i => c - i.1, ⟨0, by omega⟩, ?_, rfl, ?_⟩
      · obtain ⟨n, e, hn⟩ := (hU 0 (by omega)).nat
        show [Value.int .u64 (((me (g 0)).toNat : Nat) : Int), _, _, _] = [Value.int .u64 (me (g 0)), _, _, _]
        rw [e]
        rfl
      rintro ⟨j, hj⟩
      show (ev K8 noL _ ⟨mkSlots 35 [5, 23, 24, 25] [.int .u64 (andK g (j + 1)), .slice (some ⟨0, 0, some 1⟩) c c, .int .i64 c, .int .i64 j], [.recs ekK (c + 1) g]⟩ (pkG 35 keepCom 1)).sat _
      rw [run_coB]
      refine sat_tst (fun ht => ?_) (fun ht => ?_)
      · have hlt : j < c := by have := of_decide_eq_true ht; omega
        refine sat_ask ⟨by omega, by omega⟩ (sat_ask (by omega) ?_)
        refine ⟨⟨j + 1, by omega⟩, ?_, rfl, by show c - (j + 1) < c - j; omega⟩
        obtain ⟨n, e, hn⟩ := (hU (j + 1) (by omega)).nat
        have e2 := andI_nat (andK_lt hU (j + 1) (by omega)) hn
        have e3 : andI (andK g (j + 1)) (me (g (j + 1))) = ((andK g (j + 2) : Nat) : Int) := by
          rw [e, e2]
          show _ = ((andK g (j + 1) &&& (me (g (j + 1))).toNat : Nat) : Int)
          rw [e]
          rfl
        show [some (Value.int .u64 (andI (andK g (j + 1)) (me (g (j + 1))))), some _, some _, some (Value.int .i64 _)] = [some (Value.int .u64 ((andK g (j + 2) : Nat) : Int)), some _, some _, some _]
        rw [e3, wrap_inc (by omega)]
      · have hge : j = c := by have := of_decide_eq_false ht; omega
        subst hge
        exact ⟨_, rfl, h⟩
    · exact h.elim
  · exact h.elim
theorem lCo_ok : ∀ F, lCo (key (bodyOf Try.f10 0)) = some F → LOk K8.P (bodyOf Try.f10 0) F := fun F h => by
  have hk : lCo (key (bodyOf Try.f10 0)) = some (lspec 35 keepCom 1 gCoL) := by kernel_rfl
  rw [hk] at h
  cases h
  exact loop_co
theorem chE_le {m : Nat} {g : Nat → List Value} (h : (chE m g != 0) = false) : m ≤ 64 ∧ firstE g m = 0 := by
  have h : chE m g = 0 := by simpa using h
  unfold chE at h
  by_cases h0 : 64 < m
  · rw [decide_eq_true h0] at h
    have h : (2 : Int) = 0 := h
    exact absurd h (by decide)
  · rw [decide_eq_false h0] at h
    exact ⟨by omega, h⟩
theorem q_co : QOk K8.P 10 (listA [.one (.rows ekK)] aCk gCo) := list_qA K8_ok Try.func10 rfl rfl (one_loop (by kernel_rfl) lCo_ok) fun cas r hb hk ha h => by
  unfold gCo at h
  split at h
  · rename_i sh m g
    obtain ⟨rfl, -⟩ := hk
    obtain ⟨hb, -⟩ := hb
    cases h
    refine ⟨rfl, ?_⟩
    show (evV K8 lCo _ [.slice (some ⟨0, 0, some 0⟩) m m] [.recs ekK m g]).sat _
    rw [run_co]
    have eta : (chE m fun j => g j) = chE m g := rfl
    rw [eta]
    unfold coE
    refine sat_ask ⟨Nat.le_refl _, hb⟩ (sat_ask ha (sat_tst (fun h0 => ?_) fun h0 => sat_tst (fun h1 => ?_) fun h1 => ?_))
    · rw [h0]; rfl
    · have h1 : m = 0 := by simpa using h1
      subst h1
      rw [h0]
      rfl
    · have h1 : m ≠ 0 := by simpa using h1
      have hm := (chE_le h0).1
      have e : chE m g = 0 := by simpa using h0
      rw [h0, e]
      exact sat_ask ⟨by omega, by omega⟩ (sat_ask (by omega) (sat_ask ⟨by omega, by omega⟩ (sat_ask ⟨rfl, by omega, rfl, rfl, rfl, hm, ha⟩ rfl)))
  · cases h
theorem K9_ok : K9.Ok := K8_ok.addQ q_co
end Go.Proofs.Ytnpdpbiikejflaa
