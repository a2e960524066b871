/- What stamps, copies and majorities answer, by symbolic runs. -/
import Derived.Test.YtpkckgdpdnkbeaaXb
namespace Go.Proofs.Ytpkckgdpdnkbeaa
open Go.RowKit
theorem run_scheck (t u : Int) : evV K0 noL Try.f74 [.agg ⟨[.int .i64 t, .int .i64 u]⟩] [] = tst (decide (t < (0 : Int))) (Out.done AE.ret { slots := [some (Value.int IntKind.i64 (3 : Int))], heap := [] }) (tst (decide (t > (1000000 : Int))) (Out.done AE.ret { slots := [some (Value.int IntKind.i64 (3 : Int))], heap := [] }) (tst (decide (u < (0 : Int))) (Out.done AE.ret { slots := [some (Value.int IntKind.i64 (3 : Int))], heap := [] }) (tst (decide (u > (31 : Int))) (Out.done AE.ret { slots := [some (Value.int IntKind.i64 (3 : Int))], heap := [] }) (Out.done AE.ret { slots := [some (Value.int IntKind.i64 (0 : Int))], heap := [] })))) := by kernel_rfl
theorem run_sless (t u x y : Int) : evV K0 noL Try.f20 [.agg ⟨[.int .i64 t, .int .i64 u]⟩, .agg ⟨[.int .i64 x, .int .i64 y]⟩] [] = tst (decide (t < x)) (Out.done AE.ret { slots := [some (Value.bool true)], heap := [] }) (tst (t == x) (Out.done AE.ret { slots := [some (Value.bool (decide (u < y)))], heap := [] }) (Out.done AE.ret { slots := [some (Value.bool false)], heap := [] })) := by kernel_rfl
theorem run_ccheck (t u : Int) (s : ByteArray) : evV K1 noL Try.f56 [.agg ⟨[.int .i64 t, .int .i64 u, .string s]⟩] [] = tst (sck (t, u) != (0 : Int)) (Out.done AE.ret { slots := [some (Value.int IntKind.i64 (sck (t, u)))], heap := [] }) (tst (decide ((↑(ByteArray.size s) : Int) > (64 : Int))) (Out.done AE.ret { slots := [some (Value.int IntKind.i64 (2 : Int))], heap := [] }) (Out.done AE.ret { slots := [some (Value.int IntKind.i64 (0 : Int))], heap := [] })) := by kernel_rfl
theorem run_later (t u x y : Int) (s z : ByteArray) : evV K1 noL Try.f95 [.agg ⟨[.int .i64 t, .int .i64 u, .string s]⟩, .agg ⟨[.int .i64 x, .int .i64 y, .string z]⟩] [] = tst (slt (t, u) (x, y)) (Out.done AE.ret { slots := [some (Value.agg { toList := [Value.int IntKind.i64 x, Value.int IntKind.i64 y, Value.string z] })], heap := [] }) (Out.done AE.ret { slots := [some (Value.agg { toList := [Value.int IntKind.i64 t, Value.int IntKind.i64 u, Value.string s] })], heap := [] }) := by kernel_rfl
theorem run_clist (len : Nat) (g : Nat → List Value) : evV K3 noL Try.f99 [.slice (some ⟨0, 0, some 0⟩) len len] [.recs cpK len g] = tst (decide ((↑len : Int) > (12 : Int))) (Out.done AE.ret { slots := [some (Value.int IntKind.i64 (2 : Int))], heap := [] }) (Out.ask (len ≤ len ∧ len ≤ (140737488355328 : Nat)) (Out.done AE.ret { slots := [some (Value.int IntKind.i64 (cks (cpsOf len fun j => g j)))], heap := [] })) := by kernel_rfl
theorem run_merge (len : Nat) (g : Nat → List Value) : evV K4 noL Try.f97 [.slice (some ⟨0, 0, some 0⟩) len len] [.recs cpK len g] = Out.ask (len ≤ len ∧ len ≤ (140737488355328 : Nat)) (tst (clE (cpsOf len fun j => g j) != (0 : Int)) (Out.done AE.ret { slots := [some (Value.tuple { toList := [Value.agg { toList := [Value.int IntKind.i64 (0 : Int), Value.int IntKind.i64 (0 : Int), Value.string { data := { toList := [] } }] }, Value.int IntKind.i64 (clE (cpsOf len fun j => g j))] })], heap := [] }) (Out.ask (len ≤ len ∧ len ≤ (140737488355328 : Nat)) (Out.done AE.ret { slots := [some (Value.tuple { toList := [Value.agg { toList := [Value.int IntKind.i64 (lats (cpsOf len fun j => g j)).1.1, Value.int IntKind.i64 (lats (cpsOf len fun j => g j)).1.2, Value.string (lats (cpsOf len fun j => g j)).2] }, Value.int IntKind.i64 (0 : Int)] })], heap := [] }))) := by kernel_rfl
theorem run_checksB (len k : Nat) (g : Nat → List Value) : ev K2 noL (bodyOf Try.f94 0) ⟨mkSlots 18 [6, 7, 8] [.slice (some ⟨0, 0, some 0⟩) len len, .int .i64 len, .int .i64 k], [.recs cpK len g]⟩ (pkG 18 keepChecks 1) = tst (decide ((↑k : Int) < (↑len : Int))) (Out.ask ((0 : Int) ≤ (↑k : Int) ∧ (↑k : Int) < (↑len : Int)) (Out.ask (k < len) (tst (cck ((intV (hdV (g k)), intV (hdV (tlV (g k)))), strV (hdV (tlV (tlV (g k))))) != (0 : Int)) (Out.done AE.ret { slots := [some (Value.int IntKind.i64 (cck ((intV (hdV (g k)), intV (hdV (tlV (g k)))), strV (hdV (tlV (tlV (g k)))))))], heap := [AObj.recs cpK len g] }) (Out.done AE.normal { slots := [some (Value.slice (some { block := (0 : Nat), off := (0 : Nat), spot := some (0 : Nat) }) len len), some (Value.int IntKind.i64 (↑len : Int)), some (Value.int IntKind.i64 (IntKind.wrap IntKind.i64 ((↑k : Int) + (1 : Int))))], heap := [AObj.recs cpK len g] })))) (Out.done (AE.exit (0 : Nat)) { slots := [], heap := [AObj.recs cpK len g] }) := by kernel_rfl
theorem run_checks (len : Nat) (g : Nat → List Value) : evV K2 lChecks Try.f94 [.slice (some ⟨0, 0, some 0⟩) len len] [.recs cpK len g] = Out.ask (len = len ∧ (↑len : Int) = (↑len : Int) ∧ (0 : Int) = (0 : Int) ∧ len = len ∧ len ≤ (140737488355328 : Nat)) (tst (cks (cpsOf len g) != (0 : Int)) (Out.done AE.ret { slots := [some (Value.int IntKind.i64 (cks (cpsOf len g)))], heap := [] }) (Out.done AE.ret { slots := [some (Value.int IntKind.i64 (0 : Int))], heap := [] })) := by kernel_rfl
theorem run_latestB (len k T1 T2 : Nat) (a b : Int) (s z : ByteArray) (g : Nat → List Value) : ev K3 noL (bodyOf Try.f100 0) ⟨mkSlots 25 [2, 3, 14, 15, 16] [.pointer (some ⟨1, 0, none⟩), .pointer (some ⟨2, 0, none⟩), .slice (some ⟨0, 0, some 1⟩) (len - 1) (len - 1), .int .i64 (len - 1 : Nat), .int .i64 k], [.recs cpK len g, .cells T1 [.int .i64 0, .int .i64 0, .string z], .cells T2 [.int .i64 a, .int .i64 b, .string s]]⟩ (pkG 25 keepLatest 3) = tst (decide ((↑k : Int) < (↑(len - (1 : Nat)) : Int))) (Out.ask ((0 : Int) ≤ (↑k : Int) ∧ (↑k : Int) < (↑(len - (1 : Nat)) : Int)) (Out.ask (k + (1 : Nat) < len) (Out.done AE.normal { slots := [some (Value.pointer (some { block := (1 : Nat), off := (0 : Nat) })), some (Value.pointer (some { block := (2 : Nat), off := (0 : Nat) })), some (Value.slice (some { block := (0 : Nat), off := (0 : Nat), spot := some (1 : Nat) }) (len - (1 : Nat)) (len - (1 : Nat))), some (Value.int IntKind.i64 (↑(len - (1 : Nat)) : Int)), some (Value.int IntKind.i64 (IntKind.wrap IntKind.i64 ((↑k : Int) + (1 : Int))))], heap := [AObj.recs cpK len g, AObj.cells T1 [Value.int IntKind.i64 (0 : Int), Value.int IntKind.i64 (0 : Int), Value.string z], AObj.cells T2 [Value.int IntKind.i64 (ltr ((a, b), s) ((intV (hdV (g (k + (1 : Nat)))), intV (hdV (tlV (g (k + (1 : Nat)))))), strV (hdV (tlV (tlV (g (k + (1 : Nat)))))))).1.1, Value.int IntKind.i64 (ltr ((a, b), s) ((intV (hdV (g (k + (1 : Nat)))), intV (hdV (tlV (g (k + (1 : Nat)))))), strV (hdV (tlV (tlV (g (k + (1 : Nat)))))))).1.2, Value.string (ltr ((a, b), s) ((intV (hdV (g (k + (1 : Nat)))), intV (hdV (tlV (g (k + (1 : Nat)))))), strV (hdV (tlV (tlV (g (k + (1 : Nat)))))))).2]] }))) (Out.done (AE.exit (0 : Nat)) { slots := [some (Value.pointer (some { block := (1 : Nat), off := (0 : Nat) })), some (Value.pointer (some { block := (2 : Nat), off := (0 : Nat) }))], heap := [AObj.recs cpK len g, AObj.cells T1 [Value.int IntKind.i64 (0 : Int), Value.int IntKind.i64 (0 : Int), Value.string z], AObj.cells T2 [Value.int IntKind.i64 a, Value.int IntKind.i64 b, Value.string s]] }) := by kernel_rfl
theorem run_latest (len : Nat) (g : Nat → List Value) : evV K3 lLatest Try.f100 [.slice (some ⟨0, 0, some 0⟩) len len] [.recs cpK len g] = tst ((↑len : Int) == (0 : Int)) (Out.done AE.ret { slots := [some (Value.agg { toList := [Value.int IntKind.i64 (0 : Int), Value.int IntKind.i64 (0 : Int), Value.string { data := { toList := [] } }] })], heap := [] }) (Out.ask ((0 : Int) ≤ (0 : Int) ∧ (0 : Int) < (↑len : Int)) (Out.ask ((0 : Nat) < len) (Out.ask ((0 : Int) ≤ (1 : Int) ∧ (1 : Int) ≤ (↑len : Int)) (Out.ask (len - (1 : Nat) = len - (1 : Nat) ∧ (↑(len - Int.toNat (1 : Int)) : Int) = (↑(len - Int.toNat (1 : Int)) : Int) ∧ (0 : Int) = (0 : Int) ∧ len - (1 : Nat) = len - (1 : Nat) ∧ (0 : Nat) < len ∧ len ≤ (140737488355328 : Nat) ∧ ((intV (hdV (g (0 : Nat))), intV (hdV (tlV (g (0 : Nat))))), strV (hdV (tlV (tlV (g (0 : Nat)))))) = ((intV (hdV (g (0 : Nat))), intV (hdV (tlV (g (0 : Nat))))), strV (hdV (tlV (tlV (g (0 : Nat))))))) (Out.done AE.ret { slots := [some (Value.agg { toList := [Value.int IntKind.i64 (lats (cpsOf len g)).1.1, Value.int IntKind.i64 (lats (cpsOf len g)).1.2, Value.string (lats (cpsOf len g)).2] })], heap := [] }))))) := by kernel_rfl

theorem q_scheck : QOk K0.P 74 (listC [vK] gSCheck) := list_q K0_ok Try.func74 rfl rfl (no_loops rfl) fun cas r _hb _hk h => by
  unfold gSCheck at h
  split at h
  · rename_i t u
    cases h
    refine ⟨rfl, ?_⟩
    show (evV K0 noL _ [.agg ⟨[.int .i64 t, .int .i64 u]⟩] []).sat _
    rw [run_scheck]
    refine sat_tst (fun h => ret_i ?_) (fun h1 => sat_tst (fun h => ret_i ?_) (fun h2 => sat_tst (fun h => ret_i ?_) (fun h3 => sat_tst (fun h => ret_i ?_) (fun h4 => ret_i ?_))))
    all_goals
      unfold sck
      simp only [decide_eq_true_eq, decide_eq_false_iff_not] at *
      first | (rw [if_pos (by omega)]) | (rw [if_neg (by omega)])
  · cases h
theorem q_sless : QOk K0.P 20 (listC [vK, vK] gSLess) := list_q K0_ok Try.func20 rfl rfl (no_loops rfl) fun cas r _hb _hk h => by
  unfold gSLess at h
  split at h
  · rename_i t u x y
    cases h
    refine ⟨rfl, ?_⟩
    show (evV K0 noL _ [.agg ⟨[.int .i64 t, .int .i64 u]⟩, .agg ⟨[.int .i64 x, .int .i64 y]⟩] []).sat _
    rw [run_sless]
    refine sat_tst (fun h => ?_) (fun h1 => sat_tst (fun h => ?_) (fun h2 => ?_))
    · show [some (Value.bool _)] = [some (Value.bool _)]
      rw [slt_t (.inl (of_decide_eq_true h))]
    · show [some (Value.bool _)] = [some (Value.bool _)]
      have e : t = x := by simpa using h
      simp only [decide_eq_false_iff_not] at h1
      unfold slt
      congr 3
      simp only [decide_eq_decide]
      omega
    · show [some (Value.bool _)] = [some (Value.bool _)]
      have e : t ≠ x := by simpa using h2
      simp only [decide_eq_false_iff_not] at h1
      rw [slt_f (by omega)]
  · cases h
theorem K1_ok : K1.Ok := (K0_ok.addQ q_scheck).addQ q_sless
theorem q_ccheck : QOk K1.P 56 (listC [vK] gCCheck) := list_q K1_ok Try.func56 rfl rfl (no_loops rfl) fun cas r _hb _hk h => by
  unfold gCCheck at h
  split at h
  · rename_i t u s
    cases h
    refine ⟨rfl, ?_⟩
    show (evV K1 noL _ [.agg ⟨[.int .i64 t, .int .i64 u, .string s]⟩] []).sat _
    rw [run_ccheck]
    refine sat_tst (fun h => ret_i ?_) (fun h1 => sat_tst (fun h => ret_i ?_) (fun h2 => ret_i ?_))
    · exact (if_neg (ne_of_bne h)).symm
    · simp only [decide_eq_true_eq] at h
      exact ((if_pos (eq_of_bne h1)).trans (if_pos (by show 64 < s.size; omega))).symm
    · simp only [decide_eq_false_iff_not] at h2
      exact ((if_pos (eq_of_bne h1)).trans (if_neg (by show ¬ 64 < s.size; omega))).symm
  · cases h
theorem q_later : QOk K1.P 95 (listC [vK, vK] gLater) := list_q K1_ok Try.func95 rfl rfl (no_loops rfl) fun cas r _hb _hk h => by
  unfold gLater at h
  split at h
  · rename_i t u s x y z
    cases h
    refine ⟨rfl, ?_⟩
    show (evV K1 noL _ [.agg ⟨[.int .i64 t, .int .i64 u, .string s]⟩, .agg ⟨[.int .i64 x, .int .i64 y, .string z]⟩] []).sat _
    rw [run_later]
    refine sat_tst (fun h => ?_) (fun h => ?_)
    · show [some _] = [some (cvL (ltr _ _))]
      unfold ltr
      rw [if_pos h]
      rfl
    · show [some _] = [some (cvL (ltr _ _))]
      unfold ltr
      rw [if_neg (by rw [h]; decide)]
      rfl
  · cases h
theorem K2_ok : K2.Ok := K1_ok.addQ q_ccheck
theorem cpOf_eq (vs : List Value) : cpOf vs = ((intV (hdV vs), intV (hdV (tlV vs))), strV (hdV (tlV (tlV vs)))) := rfl
theorem loop_checks : LOk K2.P (bodyOf Try.f94 0) (lspec 18 keepChecks 1 gChecksL) := lspec_ok K2_ok (L := noL) (fun c' _ F h => by cases h) fun Φ vs H k hm0 h => by
  unfold gChecksL at h
  split at h
  · rename_i len c0 n i sh m g
    split at h
    · rename_i hsh
      have := shEq_eq hsh
      subst this
      obtain ⟨⟨rfl, rfl, rfl, rfl, hb⟩, h⟩ := h
      refine ⟨{j : Nat // j ≤ m ∧ ∀ i, i < j → cck ((cpsOf m g)[i]?.getD cz) = 0}, fun i => [.slice (some ⟨0, 0, some 0⟩) m m, .int .i64 m, .int .i64 i.1], fun _ => [.recs cpK m g], fun i => m - i.1, ⟨0, by omega, fun i hi => by omega⟩, rfl, rfl, ?_⟩
      rintro ⟨j, hj, hz⟩
      show (ev K2 noL _ ⟨mkSlots 18 [6, 7, 8] [.slice (some ⟨0, 0, some 0⟩) m m, .int .i64 m, .int .i64 j], [.recs cpK m g]⟩ (pkG 18 keepChecks 1)).sat _
      rw [run_checksB]
      refine sat_tst (fun ht => ?_) (fun ht => ?_)
      · have hlt : j < m := by have := of_decide_eq_true ht; omega
        have hat := cps_at g hlt
        refine sat_ask ⟨by omega, by omega⟩ (sat_ask hlt (sat_tst (fun hc => ?_) (fun hc => ?_)))
        · have hn : cck ((cpsOf m g)[j]?.getD cz) ≠ 0 := by rw [hat]; exact ne_of_bne hc
          have e := cks_at (cpsOf m g) j (by rw [cps_len]; exact hlt) hz hn
          rw [e] at h
          rcases tst_sat h with ⟨_, h⟩ | ⟨h0, _⟩
          · exact ⟨_, rfl, by rw [hat] at h; exact h⟩
          · exact absurd (eq_of_bne h0) hn
        · refine ⟨⟨j + 1, by omega, fun i hi => ?_⟩, ?_, rfl, by show m - (j + 1) < m - j; omega⟩
          · by_cases e : i = j
            · subst e; rw [hat]; exact eq_of_bne hc
            · exact hz i (by omega)
          · show [some _, some _, some (Value.int .i64 _)] = [some _, some _, some (Value.int .i64 _)]
            rw [wrap_at hlt hb]
      · have hge : j = m := by have := of_decide_eq_false ht; omega
        subst hge
        have e := cks_all (cpsOf j g) (fun i hi => hz i (by rw [cps_len] at hi; exact hi))
        rw [e] at h
        exact ⟨[], rfl, h⟩
    · exact h.elim
  · exact h.elim
theorem lChecks_ok : ∀ F, lChecks (key (bodyOf Try.f94 0)) = some F → LOk K2.P (bodyOf Try.f94 0) F := fun F h => by
  have hk : lChecks (key (bodyOf Try.f94 0)) = some (lspec 18 keepChecks 1 gChecksL) := by kernel_rfl
  rw [hk] at h
  cases h
  exact loop_checks
theorem q_checks : QOk K2.P 94 (listC [.one (.rows cpK)] gCchecks) := list_q K2_ok Try.func94 rfl rfl (one_loop (by kernel_rfl) lChecks_ok) fun cas r hb hk h => by
  unfold gCchecks at h
  split at h
  · rename_i sh len g
    obtain ⟨rfl, -⟩ := hk
    obtain ⟨hb, -⟩ := hb
    cases h
    refine ⟨rfl, ?_⟩
    show (evV K2 lChecks _ [.slice (some ⟨0, 0, some 0⟩) len len] [.recs cpK len g]).sat _
    rw [run_checks]
    refine sat_ask ⟨rfl, rfl, rfl, rfl, hb⟩ (sat_tst (fun _ => rfl) (fun h => ret_i (eq_of_bne h).symm))
  · cases h
theorem q_later2 : QOk K2.P 95 (listC [vK, vK] gLater) := q_later
theorem K3_ok : K3.Ok := (K2_ok.addQ q_checks).addQ q_later2
theorem q_clist : QOk K3.P 99 (listC [.one (.rows cpK)] gClist) := list_q K3_ok Try.func99 rfl rfl (no_loops rfl) fun cas r hb hk h => by
  unfold gClist at h
  split at h
  · rename_i sh len g
    obtain ⟨rfl, -⟩ := hk
    obtain ⟨hb, -⟩ := hb
    cases h
    refine ⟨rfl, ?_⟩
    show (evV K3 noL _ [.slice (some ⟨0, 0, some 0⟩) len len] [.recs cpK len g]).sat _
    rw [run_clist]
    refine sat_tst (fun h => ret_i ?_) (fun h => sat_ask ⟨Nat.le_refl _, hb⟩ (ret_i ?_))
    · have := of_decide_eq_true h
      unfold clE
      rw [cps_len, if_pos (by omega)]
    · have := of_decide_eq_false h
      unfold clE
      rw [cps_len, if_neg (by omega)]
  · cases h
theorem loop_latest : LOk K3.P (bodyOf Try.f100 0) (lspec 25 keepLatest 3 gLatestL) := lspec_ok K3_ok (L := noL) (fun c' _ F h => by cases h) fun Φ vs H k hm0 h => by
  unfold gLatestL at h
  split at h
  · rename_i r len1 c0 n i sh m g T1 z T2 a b s
    split at h
    · rename_i hsh
      rw [Bool.and_eq_true, Nat.beq_eq] at hsh
      obtain ⟨hsh, rfl⟩ := hsh
      have := shEq_eq hsh
      subst this
      obtain ⟨⟨rfl, rfl, rfl, rfl, hm, hb, hab⟩, h⟩ := h
      refine ⟨{j : Nat // j < m}, fun i => [.pointer (some ⟨1, 0, none⟩), .pointer (some ⟨2, 0, none⟩), .slice (some ⟨0, 0, some 1⟩) (m - 1) (m - 1), .int .i64 (m - 1 : Nat), .int .i64 i.1],
        fun i => [.recs cpK m g, .cells T1 [.int .i64 0, .int .i64 0, .string z], .cells T2 [.int .i64 (latK (cpsOf m g) (i.1 + 1)).1.1, .int .i64 (latK (cpsOf m g) (i.1 + 1)).1.2, .string (latK (cpsOf m g) (i.1 + 1)).2]], fun i => m - i.1, ⟨0, hm⟩, rfl, ?_, ?_⟩
      · show [_, _, AObj.cells T2 [.int .i64 (latK (cpsOf m g) 1).1.1, .int .i64 (latK (cpsOf m g) 1).1.2, .string (latK (cpsOf m g) 1).2]] = _
        rw [latK_one, cps_at g hm, ← hab]
      rintro ⟨j, hj⟩
      show (ev K3 noL _ ⟨mkSlots 25 [2, 3, 14, 15, 16] [.pointer (some ⟨1, 0, none⟩), .pointer (some ⟨2, 0, none⟩), .slice (some ⟨0, 0, some 1⟩) (m - 1) (m - 1), .int .i64 (m - 1 : Nat), .int .i64 j], [.recs cpK m g, .cells T1 [.int .i64 0, .int .i64 0, .string z], .cells T2 [.int .i64 (latK (cpsOf m g) (j + 1)).1.1, .int .i64 (latK (cpsOf m g) (j + 1)).1.2, .string (latK (cpsOf m g) (j + 1)).2]]⟩ (pkG 25 keepLatest 3)).sat _
      rw [run_latestB]
      refine sat_tst (fun ht => ?_) (fun ht => ?_)
      · have hlt : j < m - 1 := by have := of_decide_eq_true ht; omega
        refine sat_ask ⟨by omega, by omega⟩ (sat_ask (by omega) ?_)
        refine ⟨⟨j + 1, by omega⟩, ?_, ?_, by show m - (j + 1) < m - j; omega⟩
        · show [some _, some _, some _, some _, some (Value.int .i64 _)] = [some _, some _, some _, some _, some (Value.int .i64 _)]
          rw [wrap_at (n := m) (by omega) hb]
        · have e := latK_step (L := cpsOf m g) (k := j + 1) (by omega) (by rw [cps_len]; omega)
          rw [cps_at g (by omega)] at e
          show [_, _, AObj.cells _ _] = [_, _, AObj.cells _ [.int .i64 (latK (cpsOf m g) (j + 1 + 1)).1.1, .int .i64 (latK (cpsOf m g) (j + 1 + 1)).1.2, .string (latK (cpsOf m g) (j + 1 + 1)).2]]
          rw [e]
          rfl
      · have hge : j + 1 = m := by have := of_decide_eq_false ht; omega
        subst hge
        have e : lats (cpsOf (j + 1) g) = latK (cpsOf (j + 1) g) (j + 1) := by unfold lats; rw [cps_len]
        rw [e] at h
        exact ⟨_, rfl, h⟩
    · exact h.elim
  · exact h.elim
theorem lLatest_ok : ∀ F, lLatest (key (bodyOf Try.f100 0)) = some F → LOk K3.P (bodyOf Try.f100 0) F := fun F h => by
  have hk : lLatest (key (bodyOf Try.f100 0)) = some (lspec 25 keepLatest 3 gLatestL) := by kernel_rfl
  rw [hk] at h
  cases h
  exact loop_latest
theorem lats_zero (g : Nat → List Value) : lats (cpsOf 0 g) = cz := rfl
theorem q_latest : QOk K3.P 100 (listC [.one (.rows cpK)] gLatest) := list_q K3_ok Try.func100 rfl rfl (one_loop (by kernel_rfl) lLatest_ok) fun cas r hb hk h => by
  unfold gLatest at h
  split at h
  · rename_i sh len g
    obtain ⟨rfl, -⟩ := hk
    obtain ⟨hb, -⟩ := hb
    cases h
    refine ⟨rfl, ?_⟩
    show (evV K3 lLatest _ [.slice (some ⟨0, 0, some 0⟩) len len] [.recs cpK len g]).sat _
    rw [run_latest]
    refine sat_tst (fun h => ?_) (fun h => ?_)
    · have : len = 0 := by simpa using h
      subst this
      rfl
    · have h0 : 0 < len := by have : ¬ len = 0 := by simpa using h
                              omega
      exact sat_ask ⟨by omega, by omega⟩ (sat_ask h0 (sat_ask ⟨by omega, by omega⟩ (sat_ask ⟨rfl, rfl, rfl, rfl, h0, hb, rfl⟩ rfl)))
  · cases h
theorem q_clist4 : QOk (K3.addQ 99 (listC [.one (.rows cpK)] gClist)).P 100 (listC [.one (.rows cpK)] gLatest) := q_latest
theorem K4_ok : K4.Ok := (K3_ok.addQ q_clist).addQ q_clist4
theorem q_merge : QOk K4.P 97 (listC [.one (.rows cpK)] gMerge) := list_q K4_ok Try.func97 rfl rfl (no_loops rfl) fun cas r hb hk h => by
  unfold gMerge at h
  split at h
  · rename_i sh len g
    obtain ⟨rfl, -⟩ := hk
    obtain ⟨hb, -⟩ := hb
    cases h
    refine ⟨rfl, ?_⟩
    show (evV K4 noL _ [.slice (some ⟨0, 0, some 0⟩) len len] [.recs cpK len g]).sat _
    rw [run_merge]
    refine sat_ask ⟨Nat.le_refl _, hb⟩ (sat_tst (fun h => ?_) (fun h => sat_ask ⟨Nat.le_refl _, hb⟩ ?_))
    · show [some (Value.tuple _)] = [some (Value.tuple ⟨[cvL (mgV _), .int .i64 (clE _)]⟩)]
      rw [show mgV (cpsOf len g) = cz from if_neg (ne_of_bne h)]
      rfl
    · show [some (Value.tuple _)] = [some (Value.tuple ⟨[cvL (mgV _), .int .i64 (clE _)]⟩)]
      rw [show mgV (cpsOf len g) = lats (cpsOf len g) from if_pos (eq_of_bne h), eq_of_bne h]
      rfl
  · cases h
theorem K5_ok : K5.Ok := K4_ok.addQ q_merge
end Go.Proofs.Ytpkckgdpdnkbeaa
