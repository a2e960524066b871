/- What the functions of copies answer, by symbolic runs. -/
import Derived.Test.YtcplbpnpcmgjfabVc
namespace Go.Proofs.Ytcplbpnpcmgjfab
open Go.RowKit
theorem run_ccheck (t u : Int) (s : ByteArray) : evV K1 noL Try.f16 [.agg ⟨[.int .i64 t, .int .i64 u, .string s]⟩] [] = tst (sck (t, u) != (0 : Int)) (Out.done AE.ret { slots := [some (Value.int IntKind.i64 (sck (t, u)))], heap := [] }) (tst (decide ((↑(ByteArray.size s) : Int) > (64 : Int))) (Out.done AE.ret { slots := [some (Value.int IntKind.i64 (2 : Int))], heap := [] }) (Out.done AE.ret { slots := [some (Value.int IntKind.i64 (0 : Int))], heap := [] })) := by kernel_rfl
theorem run_later (t u x y : Int) (s z : ByteArray) : evV K1 noL Try.f14 [.agg ⟨[.int .i64 t, .int .i64 u, .string s]⟩, .agg ⟨[.int .i64 x, .int .i64 y, .string z]⟩] [] = tst (slt (t, u) (x, y)) (Out.done AE.ret { slots := [some (Value.agg { toList := [Value.int IntKind.i64 x, Value.int IntKind.i64 y, Value.string z] })], heap := [] }) (Out.done AE.ret { slots := [some (Value.agg { toList := [Value.int IntKind.i64 t, Value.int IntKind.i64 u, Value.string s] })], heap := [] }) := by kernel_rfl
theorem run_clist (len cap : Nat) (g : Nat → List Value) : evV K3 noL Try.f17 [.slice (some ⟨0, 0, none⟩) len cap] [.recs cpK len g] = tst (decide ((↑len : Int) > (12 : Int))) (Out.done AE.ret { slots := [some (Value.int IntKind.i64 (2 : Int))], heap := [] }) (Out.ask (len ≤ len ∧ len ≤ (140737488355328 : Nat)) (Out.done AE.ret { slots := [some (Value.int IntKind.i64 (cks (cpsOf len g)))], heap := [] })) := by kernel_rfl
theorem run_store (t u x y : Int) (s z : ByteArray) : evV K4 noL Try.f7 [.agg ⟨[.int .i64 t, .int .i64 u, .string s]⟩, .agg ⟨[.int .i64 x, .int .i64 y, .string z]⟩] [] = tst (cks [((t, u), s), ((x, y), z)] != (0 : Int)) (Out.done AE.ret { slots := [some (Value.tuple { toList := [Value.agg { toList := [Value.int IntKind.i64 (0 : Int), Value.int IntKind.i64 (0 : Int), Value.string { data := { toList := [] } }] }, Value.int IntKind.i64 (cks [((t, u), s), ((x, y), z)])] })], heap := [] }) (Out.done AE.ret { slots := [some (Value.tuple { toList := [Value.agg { toList := [Value.int IntKind.i64 (Prod.fst (ltr ((t, u), s) ((x, y), z))).1, Value.int IntKind.i64 (Prod.fst (ltr ((t, u), s) ((x, y), z))).2, Value.string (ltr ((t, u), s) ((x, y), z)).2] }, Value.int IntKind.i64 (0 : Int)] })], heap := [] }) := by kernel_rfl
theorem run_merge (len cap : Nat) (g : Nat → List Value) : evV K4 noL Try.f10 [.slice (some ⟨0, 0, none⟩) len cap] [.recs cpK len g] = Out.ask (len ≤ len ∧ len ≤ (140737488355328 : Nat)) (tst (clE (cpsOf len g) != (0 : Int)) (Out.done AE.ret { slots := [some (Value.tuple { toList := [Value.agg { toList := [Value.int IntKind.i64 (0 : Int), Value.int IntKind.i64 (0 : Int), Value.string { data := { toList := [] } }] }, Value.int IntKind.i64 (clE (cpsOf len g))] })], heap := [] }) (Out.ask (len ≤ len ∧ len ≤ (140737488355328 : Nat)) (Out.done AE.ret { slots := [some (Value.tuple { toList := [Value.agg { toList := [Value.int IntKind.i64 (Prod.fst (lats (cpsOf len g))).1, Value.int IntKind.i64 (Prod.fst (lats (cpsOf len g))).2, Value.string (lats (cpsOf len g)).2] }, Value.int IntKind.i64 (0 : Int)] })], heap := [] }))) := by kernel_rfl
theorem run_scheck (t u : Int) : evV K0 noL Try.f20 [.agg ⟨[.int .i64 t, .int .i64 u]⟩] [] = tst (decide (t < (0 : Int))) (Out.done AE.ret { slots := [some (Value.int IntKind.i64 (3 : Int))], heap := [] }) (tst (decide (t > (1000000 : Int))) (Out.done AE.ret { slots := [some (Value.int IntKind.i64 (3 : Int))], heap := [] }) (tst (decide (u < (0 : Int))) (Out.done AE.ret { slots := [some (Value.int IntKind.i64 (3 : Int))], heap := [] }) (tst (decide (u > (31 : Int))) (Out.done AE.ret { slots := [some (Value.int IntKind.i64 (3 : Int))], heap := [] }) (Out.done AE.ret { slots := [some (Value.int IntKind.i64 (0 : Int))], heap := [] })))) := by kernel_rfl
theorem run_sless (t u x y : Int) : evV K0 noL Try.f9 [.agg ⟨[.int .i64 t, .int .i64 u]⟩, .agg ⟨[.int .i64 x, .int .i64 y]⟩] [] = tst (decide (t < x)) (Out.done AE.ret { slots := [some (Value.bool true)], heap := [] }) (tst (t == x) (Out.done AE.ret { slots := [some (Value.bool (decide (u < y)))], heap := [] }) (Out.done AE.ret { slots := [some (Value.bool false)], heap := [] })) := by kernel_rfl

theorem run_checksB (len cap k : Nat) (g : Nat → List Value) : ev K2 noL (bodyOf Try.f13 0) ⟨mkSlots 18 [6, 7, 8] [.slice (some ⟨0, 0, none⟩) len cap, .int .i64 len, .int .i64 k], [.recs cpK len g]⟩ (pk 18 keepChecks 1) = tst (decide ((↑k : Int) < (↑len : Int))) (Out.ask ((0 : Int) ≤ (↑k : Int) ∧ (↑k : Int) < (↑len : Int)) (Out.ask (k < len) (tst (cck ((intV (hdV (g k)), intV (hdV (tlV (g k)))), strV (hdV (tlV (tlV (g k))))) != (0 : Int)) (Out.done AE.ret { slots := [some (Value.int IntKind.i64 (cck ((intV (hdV (g k)), intV (hdV (tlV (g k)))), strV (hdV (tlV (tlV (g k)))))))], heap := [AObj.recs cpK len g] }) (Out.done AE.normal { slots := [some (Value.slice (some { block := (0 : Nat), off := (0 : Nat) }) len cap), some (Value.int IntKind.i64 (↑len : Int)), some (Value.int IntKind.i64 (IntKind.wrap IntKind.i64 ((↑k : Int) + (1 : Int))))], heap := [AObj.recs cpK len g] })))) (Out.done (AE.exit (0 : Nat)) { slots := [], heap := [AObj.recs cpK len g] }) := by kernel_rfl
theorem run_checks (len cap : Nat) (g : Nat → List Value) : evV K2 lChecks Try.f13 [.slice (some ⟨0, 0, none⟩) len cap] [.recs cpK len g] = Out.ask ((↑len : Int) = (↑len : Int) ∧ (0 : Int) = (0 : Int) ∧ len = len ∧ len ≤ (140737488355328 : Nat)) (tst (cks (cpsOf len g) != (0 : Int)) (Out.done AE.ret { slots := [some (Value.int IntKind.i64 (cks (cpsOf len g)))], heap := [] }) (Out.done AE.ret { slots := [some (Value.int IntKind.i64 (0 : Int))], heap := [] })) := by kernel_rfl
theorem run_latestB (len cap k T1 T2 : Nat) (a b : Int) (s z : ByteArray) (g : Nat → List Value) : ev K3 noL (bodyOf Try.f18 0) ⟨mkSlots 25 [2, 3, 14, 15, 16] [.pointer (some ⟨1, 0, none⟩), .pointer (some ⟨2, 0, none⟩), .slice (some ⟨0, 0, some 1⟩) (len - 1) cap, .int .i64 (len - 1 : Nat), .int .i64 k], [.recs cpK len g, .cells T1 [.int .i64 0, .int .i64 0, .string z], .cells T2 [.int .i64 a, .int .i64 b, .string s]]⟩ (pk 25 keepLatest 3) = tst (decide ((↑k : Int) < (↑(len - (1 : Nat)) : Int))) (Out.ask ((0 : Int) ≤ (↑k : Int) ∧ (↑k : Int) < (↑(len - (1 : Nat)) : Int)) (Out.ask ((1 : Nat) + k < len) (Out.done AE.normal { slots := [some (Value.pointer (some { block := (1 : Nat), off := (0 : Nat) })), some (Value.pointer (some { block := (2 : Nat), off := (0 : Nat) })), some (Value.slice (some { block := (0 : Nat), off := (0 : Nat), spot := some (1 : Nat) }) (len - (1 : Nat)) cap), some (Value.int IntKind.i64 (↑(len - (1 : Nat)) : Int)), some (Value.int IntKind.i64 (IntKind.wrap IntKind.i64 ((↑k : Int) + (1 : Int))))], heap := [AObj.recs cpK len g, AObj.cells T1 [Value.int IntKind.i64 (0 : Int), Value.int IntKind.i64 (0 : Int), Value.string z], AObj.cells T2 [Value.int IntKind.i64 (Prod.fst (ltr ((a, b), s) ((intV (hdV (g ((1 : Nat) + Int.toNat (↑k : Int)))), intV (hdV (tlV (g ((1 : Nat) + Int.toNat (↑k : Int)))))), strV (hdV (tlV (tlV (g ((1 : Nat) + Int.toNat (↑k : Int))))))))).1, Value.int IntKind.i64 (Prod.fst (ltr ((a, b), s) ((intV (hdV (g ((1 : Nat) + Int.toNat (↑k : Int)))), intV (hdV (tlV (g ((1 : Nat) + Int.toNat (↑k : Int)))))), strV (hdV (tlV (tlV (g ((1 : Nat) + Int.toNat (↑k : Int))))))))).2, Value.string (ltr ((a, b), s) ((intV (hdV (g ((1 : Nat) + Int.toNat (↑k : Int)))), intV (hdV (tlV (g ((1 : Nat) + Int.toNat (↑k : Int)))))), strV (hdV (tlV (tlV (g ((1 : Nat) + Int.toNat (↑k : Int)))))))).2]] }))) (Out.done (AE.exit (0 : Nat)) { slots := [some (Value.pointer (some { block := (1 : Nat), off := (0 : Nat) })), some (Value.pointer (some { block := (2 : Nat), off := (0 : Nat) }))], heap := [AObj.recs cpK len g, AObj.cells T1 [Value.int IntKind.i64 (0 : Int), Value.int IntKind.i64 (0 : Int), Value.string z], AObj.cells T2 [Value.int IntKind.i64 a, Value.int IntKind.i64 b, Value.string s]] }) := by kernel_rfl
theorem run_latest (len cap : Nat) (g : Nat → List Value) : evV K3 lLatest Try.f18 [.slice (some ⟨0, 0, none⟩) len cap] [.recs cpK len g] = tst ((↑len : Int) == (0 : Int)) (Out.done AE.ret { slots := [some (Value.agg { toList := [Value.int IntKind.i64 (0 : Int), Value.int IntKind.i64 (0 : Int), Value.string { data := { toList := [] } }] })], heap := [] }) (Out.ask ((0 : Int) ≤ (0 : Int) ∧ (0 : Int) < (↑len : Int)) (Out.ask ((0 : Nat) < len) (Out.ask ((0 : Int) ≤ (1 : Int) ∧ (1 : Int) ≤ (↑len : Int)) (Out.ask ((↑(len - Int.toNat (1 : Int)) : Int) = (↑(len - Int.toNat (1 : Int)) : Int) ∧ (0 : Int) = (0 : Int) ∧ len - (1 : Nat) = len - (1 : Nat) ∧ (0 : Nat) < len ∧ len ≤ (140737488355328 : Nat) ∧ ((intV (hdV (g (0 : Nat))), intV (hdV (tlV (g (0 : Nat))))), strV (hdV (tlV (tlV (g (0 : Nat)))))) = ((intV (hdV (g (0 : Nat))), intV (hdV (tlV (g (0 : Nat))))), strV (hdV (tlV (tlV (g (0 : Nat))))))) (Out.done AE.ret { slots := [some (Value.agg { toList := [Value.int IntKind.i64 (Prod.fst (lats (cpsOf len g))).1, Value.int IntKind.i64 (Prod.fst (lats (cpsOf len g))).2, Value.string (lats (cpsOf len g)).2] })], heap := [] }))))) := by kernel_rfl
theorem run_staleB (len cap k T1 : Nat) (z a b : Int) (g : Nat → List Value) : ev K4 noL (bodyOf Try.f11 0) ⟨mkSlots 34 [5, 6, 17, 18, 19] [.pointer (some ⟨1, 0, none⟩), .int .u64 z, .slice (some ⟨0, 0, none⟩) len cap, .int .i64 len, .int .i64 k], [.recs cpK len g, .cells T1 [.int .i64 a, .int .i64 b]]⟩ (pk 34 keepStale 2) = tst (decide ((↑k : Int) < (↑len : Int))) (Out.ask ((0 : Int) ≤ (↑k : Int) ∧ (↑k : Int) < (↑len : Int)) (Out.ask (k < len) (tst (slt (intV (hdV (g k)), intV (hdV (tlV (g k)))) (a, b)) (Out.ask ((0 : Int) ≤ (↑k : Int)) (Out.done AE.normal { slots := [some (Value.pointer (some { block := (1 : Nat), off := (0 : Nat) })), some (Value.int IntKind.u64 (IntKind.wrap IntKind.u64 (↑(BitVec.toNat (BitVec.ofInt (IntKind.bits IntKind.u64) z ||| BitVec.ofInt (IntKind.bits IntKind.u64) (shlV IntKind.u64 (1 : Int) (↑k : Int)))) : Int))), some (Value.slice (some { block := (0 : Nat), off := (0 : Nat) }) len cap), some (Value.int IntKind.i64 (↑len : Int)), some (Value.int IntKind.i64 (IntKind.wrap IntKind.i64 ((↑k : Int) + (1 : Int))))], heap := [AObj.recs cpK len g, AObj.cells T1 [Value.int IntKind.i64 a, Value.int IntKind.i64 b]] })) (Out.done AE.normal { slots := [some (Value.pointer (some { block := (1 : Nat), off := (0 : Nat) })), some (Value.int IntKind.u64 z), some (Value.slice (some { block := (0 : Nat), off := (0 : Nat) }) len cap), some (Value.int IntKind.i64 (↑len : Int)), some (Value.int IntKind.i64 (IntKind.wrap IntKind.i64 ((↑k : Int) + (1 : Int))))], heap := [AObj.recs cpK len g, AObj.cells T1 [Value.int IntKind.i64 a, Value.int IntKind.i64 b]] })))) (Out.done (AE.exit (0 : Nat)) { slots := [some (Value.int IntKind.u64 z)], heap := [AObj.recs cpK len g, AObj.cells T1 [Value.int IntKind.i64 a, Value.int IntKind.i64 b]] }) := by kernel_rfl
theorem run_stale (len cap : Nat) (g : Nat → List Value) : evV K4 lStale Try.f11 [.slice (some ⟨0, 0, none⟩) len cap] [.recs cpK len g] = Out.ask (len ≤ len ∧ len ≤ (140737488355328 : Nat)) (tst (clE (cpsOf len g) != (0 : Int)) (Out.done AE.ret { slots := [some (Value.tuple { toList := [Value.int IntKind.u64 (0 : Int), Value.int IntKind.i64 (clE (cpsOf len g))] })], heap := [] }) (Out.ask (len ≤ len ∧ len ≤ (140737488355328 : Nat)) (Out.ask ((0 : Int) = (0 : Int) ∧ (↑len : Int) = (↑len : Int) ∧ (0 : Int) = (0 : Int) ∧ len = len ∧ len ≤ (12 : Nat)) (Out.done AE.ret { slots := [some (Value.tuple { toList := [Value.int IntKind.u64 (↑(slK (cpsOf len g) (Prod.fst (Prod.fst (lats (cpsOf len g))), Prod.snd (Prod.fst (lats (cpsOf len g)))) len) : Int), Value.int IntKind.i64 (0 : Int)] })], heap := [] })))) := by kernel_rfl

theorem ret_i {a b : Int} (h : a = b) : [some (Value.int .i64 a)] = [some (Value.int .i64 b)] := by rw [h]
theorem ne_of_bne {a b : Int} (h : (a != b) = true) : a ≠ b := by simpa using h
theorem eq_of_bne {a b : Int} (h : (a != b) = false) : a = b := by simpa using h
theorem q_scheck : QOk K0.P 20 (listC [.val] gSCheck) := list_q K0_ok Try.func20 rfl rfl (no_loops rfl) fun cas r _hb _hk h => by
  unfold gSCheck at h
  split at h
  · rename_i t u
    cases h
    refine ⟨rfl, ?_⟩
    show (evV K0 noL _ [.agg ⟨[.int .i64 t, .int .i64 u]⟩] []).sat _
    rw [run_scheck]
    refine sat_tst (fun h => ret_i ?_) (fun h1 => sat_tst (fun h => ret_i ?_) (fun h2 => sat_tst (fun h => ret_i ?_) (fun h3 => sat_tst (fun h => ret_i ?_) (fun h4 => ret_i ?_))))
    all_goals
      unfold sck
      simp only [decide_eq_true_eq, decide_eq_false_iff_not] at *
      first | (rw [if_pos (by omega)]) | (rw [if_neg (by omega)])
  · cases h
theorem q_sless : QOk K0.P 9 (listC [.val, .val] gSLess) := list_q K0_ok Try.func9 rfl rfl (no_loops rfl) fun cas r _hb _hk h => by
  unfold gSLess at h
  split at h
  · rename_i t u x y
    cases h
    refine ⟨rfl, ?_⟩
    show (evV K0 noL _ [.agg ⟨[.int .i64 t, .int .i64 u]⟩, .agg ⟨[.int .i64 x, .int .i64 y]⟩] []).sat _
    rw [run_sless]
    refine sat_tst (fun h => ?_) (fun h1 => sat_tst (fun h => ?_) (fun h2 => ?_))
    · show [some (Value.bool _)] = [some (Value.bool _)]
      rw [slt_t (.inl (of_decide_eq_true h))]
    · show [some (Value.bool _)] = [some (Value.bool _)]
      have e : t = x := by simpa using h
      simp only [decide_eq_false_iff_not] at h1
      unfold slt
      congr 3
      simp only [decide_eq_decide]
      omega
    · show [some (Value.bool _)] = [some (Value.bool _)]
      have e : t ≠ x := by simpa using h2
      simp only [decide_eq_false_iff_not] at h1
      rw [slt_f (by omega)]
  · cases h
theorem K1_ok : K1.Ok := (K0_ok.addQ q_scheck).addQ q_sless
theorem q_ccheck : QOk K1.P 16 (listC [.val] gCCheck) := list_q K1_ok Try.func16 rfl rfl (no_loops rfl) fun cas r _hb _hk h => by
  unfold gCCheck at h
  split at h
  · rename_i t u s
    cases h
    refine ⟨rfl, ?_⟩
    show (evV K1 noL _ [.agg ⟨[.int .i64 t, .int .i64 u, .string s]⟩] []).sat _
    rw [run_ccheck]
    refine sat_tst (fun h => ret_i ?_) (fun h1 => sat_tst (fun h => ret_i ?_) (fun h2 => ret_i ?_))
    · exact (if_neg (ne_of_bne h)).symm
    · simp only [decide_eq_true_eq] at h
      exact ((if_pos (eq_of_bne h1)).trans (if_pos (by show 64 < s.size; omega))).symm
    · simp only [decide_eq_false_iff_not] at h2
      exact ((if_pos (eq_of_bne h1)).trans (if_neg (by show ¬ 64 < s.size; omega))).symm
  · cases h
theorem q_later : QOk K1.P 14 (listC [.val, .val] gLater) := list_q K1_ok Try.func14 rfl rfl (no_loops rfl) fun cas r _hb _hk h => by
  unfold gLater at h
  split at h
  · rename_i t u s x y z
    cases h
    refine ⟨rfl, ?_⟩
    show (evV K1 noL _ [.agg ⟨[.int .i64 t, .int .i64 u, .string s]⟩, .agg ⟨[.int .i64 x, .int .i64 y, .string z]⟩] []).sat _
    rw [run_later]
    refine sat_tst (fun h => ?_) (fun h => ?_)
    · show [some _] = [some (cvL (ltr _ _))]
      unfold ltr
      rw [if_pos h]
      rfl
    · show [some _] = [some (cvL (ltr _ _))]
      unfold ltr
      rw [if_neg (by rw [h]; decide)]
      rfl
  · cases h
theorem K2_ok : K2.Ok := K1_ok.addQ q_ccheck
theorem cpOf_eq (vs : List Value) : cpOf vs = ((intV (hdV vs), intV (hdV (tlV vs))), strV (hdV (tlV (tlV vs)))) := rfl
theorem loop_checks : LOk K2.P (bodyOf Try.f13 0) (lspec 18 keepChecks 1 gChecksL) := lspec_ok K2_ok (L := noL) (fun c' _ F h => by cases h) fun Φ vs H k h => by
  unfold gChecksL at h
  split at h
  · rename_i len cap n i sh m g
    split at h
    · rename_i hsh
      have := shEq_eq hsh
      subst this
      obtain ⟨⟨rfl, rfl, rfl, hb⟩, h⟩ := h
      refine ⟨rfl, {j : Nat // j ≤ m ∧ ∀ i, i < j → cck ((cpsOf m g)[i]?.getD cz) = 0}, fun i => [.slice (some ⟨0, 0, none⟩) m cap, .int .i64 m, .int .i64 i.1], fun _ => [.recs cpK m g], fun i => m - i.1, ⟨0, by omega, fun i hi => by omega⟩, rfl, rfl, ?_⟩
      rintro ⟨j, hj, hz⟩
      show (ev K2 noL _ ⟨mkSlots 18 [6, 7, 8] [.slice (some ⟨0, 0, none⟩) m cap, .int .i64 m, .int .i64 j], [.recs cpK m g]⟩ (pk 18 keepChecks 1)).sat _
      rw [run_checksB]
      refine sat_tst (fun ht => ?_) (fun ht => ?_)
      · have hlt : j < m := by have := of_decide_eq_true ht; omega
        have hat := cps_at g hlt
        refine sat_ask ⟨by omega, by omega⟩ (sat_ask hlt (sat_tst (fun hc => ?_) (fun hc => ?_)))
        · have hn : cck ((cpsOf m g)[j]?.getD cz) ≠ 0 := by rw [hat]; exact ne_of_bne hc
          have e := cks_at (cpsOf m g) j (by rw [cps_len]; exact hlt) hz hn
          rw [e] at h
          rcases tst_sat h with ⟨_, h⟩ | ⟨h0, _⟩
          · exact ⟨_, rfl, by rw [hat] at h; exact h⟩
          · exact absurd (eq_of_bne h0) hn
        · refine ⟨⟨j + 1, by omega, fun i hi => ?_⟩, ?_, rfl, by show m - (j + 1) < m - j; omega⟩
          · by_cases e : i = j
            · subst e; rw [hat]; exact eq_of_bne hc
            · exact hz i (by omega)
          · show [some _, some _, some (Value.int .i64 _)] = [some _, some _, some (Value.int .i64 _)]
            rw [wrap_at hlt hb]
      · have hge : j = m := by have := of_decide_eq_false ht; omega
        subst hge
        have e := cks_all (cpsOf j g) (fun i hi => hz i (by rw [cps_len] at hi; exact hi))
        rw [e] at h
        exact ⟨[], rfl, h⟩
    · exact h.elim
  · exact h.elim
theorem lChecks_ok : ∀ F, lChecks (key (bodyOf Try.f13 0)) = some F → LOk K2.P (bodyOf Try.f13 0) F := fun F h => by
  have hk : lChecks (key (bodyOf Try.f13 0)) = some (lspec 18 keepChecks 1 gChecksL) := by kernel_rfl
  rw [hk] at h
  cases h
  exact loop_checks
theorem q_checks : QOk K2.P 13 (listC [.rows cpK] gCchecks) := list_q K2_ok Try.func13 rfl rfl (one_loop (by kernel_rfl) lChecks_ok) fun cas r hb hk h => by
  unfold gCchecks at h
  split at h
  · rename_i sh len cap g
    obtain ⟨rfl, -⟩ := hk
    obtain ⟨hb, -⟩ := hb
    cases h
    refine ⟨rfl, ?_⟩
    show (evV K2 lChecks _ [.slice (some ⟨0, 0, none⟩) len cap] [.recs cpK len g]).sat _
    rw [run_checks]
    refine sat_ask ⟨rfl, rfl, rfl, hb⟩ (sat_tst (fun _ => rfl) (fun h => ret_i (eq_of_bne h).symm))
  · cases h
theorem q_later2 : QOk K2.P 14 (listC [.val, .val] gLater) := q_later
theorem K3_ok : K3.Ok := (K2_ok.addQ q_checks).addQ q_later2
theorem q_clist : QOk K3.P 17 (listC [.rows cpK] gClist) := list_q K3_ok Try.func17 rfl rfl (no_loops rfl) fun cas r hb hk h => by
  unfold gClist at h
  split at h
  · rename_i sh len cap g
    obtain ⟨rfl, -⟩ := hk
    obtain ⟨hb, -⟩ := hb
    cases h
    refine ⟨rfl, ?_⟩
    show (evV K3 noL _ [.slice (some ⟨0, 0, none⟩) len cap] [.recs cpK len g]).sat _
    rw [run_clist]
    refine sat_tst (fun h => ret_i ?_) (fun h => sat_ask ⟨Nat.le_refl _, hb⟩ (ret_i ?_))
    · have := of_decide_eq_true h
      unfold clE
      rw [cps_len, if_pos (by omega)]
    · have := of_decide_eq_false h
      unfold clE
      rw [cps_len, if_neg (by omega)]
  · cases h
theorem loop_latest : LOk K3.P (bodyOf Try.f18 0) (lspec 25 keepLatest 3 gLatestL) := lspec_ok K3_ok (L := noL) (fun c' _ F h => by cases h) fun Φ vs H k h => by
  unfold gLatestL at h
  split at h
  · rename_i r len1 cap1 n i sh m g T1 z T2 a b s
    split at h
    · rename_i hsh
      rw [Bool.and_eq_true, Nat.beq_eq] at hsh
      obtain ⟨hsh, rfl⟩ := hsh
      have := shEq_eq hsh
      subst this
      obtain ⟨⟨rfl, rfl, rfl, hm, hb, hab⟩, h⟩ := h
      refine ⟨rfl, {j : Nat // j < m}, fun i => [.pointer (some ⟨1, 0, none⟩), .pointer (some ⟨2, 0, none⟩), .slice (some ⟨0, 0, some 1⟩) (m - 1) cap1, .int .i64 (m - 1 : Nat), .int .i64 i.1],
        fun i => [.recs cpK m g, .cells T1 [.int .i64 0, .int .i64 0, .string z], .cells T2 [.int .i64 (latK (cpsOf m g) (i.1 + 1)).1.1, .int .i64 (latK (cpsOf m g) (i.1 + 1)).1.2, .string (latK (cpsOf m g) (i.1 + 1)).2]], fun i => m - i.1, ⟨0, hm⟩, rfl, ?_, ?_⟩
      · show [_, _, AObj.cells T2 [.int .i64 (latK (cpsOf m g) 1).1.1, .int .i64 (latK (cpsOf m g) 1).1.2, .string (latK (cpsOf m g) 1).2]] = _
        rw [latK_one, cps_at g hm, ← hab]
      rintro ⟨j, hj⟩
      show (ev K3 noL _ ⟨mkSlots 25 [2, 3, 14, 15, 16] [.pointer (some ⟨1, 0, none⟩), .pointer (some ⟨2, 0, none⟩), .slice (some ⟨0, 0, some 1⟩) (m - 1) cap1, .int .i64 (m - 1 : Nat), .int .i64 j], [.recs cpK m g, .cells T1 [.int .i64 0, .int .i64 0, .string z], .cells T2 [.int .i64 (latK (cpsOf m g) (j + 1)).1.1, .int .i64 (latK (cpsOf m g) (j + 1)).1.2, .string (latK (cpsOf m g) (j + 1)).2]]⟩ (pk 25 keepLatest 3)).sat _
      rw [run_latestB]
      refine sat_tst (fun ht => ?_) (fun ht => ?_)
      · have hlt : j < m - 1 := by have := of_decide_eq_true ht; omega
        refine sat_ask ⟨by omega, by omega⟩ (sat_ask (by omega) ?_)
        refine ⟨⟨j + 1, by omega⟩, ?_, ?_, by show m - (j + 1) < m - j; omega⟩
        · show [some _, some _, some _, some _, some (Value.int .i64 _)] = [some _, some _, some _, some _, some (Value.int .i64 _)]
          rw [wrap_at (n := m) (by omega) hb]
        · have e := latK_step (L := cpsOf m g) (k := j + 1) (by omega) (by rw [cps_len]; omega)
          rw [cps_at g (by omega)] at e
          show [_, _, AObj.cells _ _] = [_, _, AObj.cells _ [.int .i64 (latK (cpsOf m g) (j + 1 + 1)).1.1, .int .i64 (latK (cpsOf m g) (j + 1 + 1)).1.2, .string (latK (cpsOf m g) (j + 1 + 1)).2]]
          rw [e]
          have e2 : 1 + Int.toNat (j : Int) = j + 1 := by omega
          rw [e2]
          rfl
      · have hge : j + 1 = m := by have := of_decide_eq_false ht; omega
        subst hge
        have e : lats (cpsOf (j + 1) g) = latK (cpsOf (j + 1) g) (j + 1) := by unfold lats; rw [cps_len]
        rw [e] at h
        exact ⟨_, rfl, h⟩
    · exact h.elim
  · exact h.elim
theorem lLatest_ok : ∀ F, lLatest (key (bodyOf Try.f18 0)) = some F → LOk K3.P (bodyOf Try.f18 0) F := fun F h => by
  have hk : lLatest (key (bodyOf Try.f18 0)) = some (lspec 25 keepLatest 3 gLatestL) := by kernel_rfl
  rw [hk] at h
  cases h
  exact loop_latest
theorem lats_zero (g : Nat → List Value) : lats (cpsOf 0 g) = cz := rfl
theorem q_latest : QOk K3.P 18 (listC [.rows cpK] gLatest) := list_q K3_ok Try.func18 rfl rfl (one_loop (by kernel_rfl) lLatest_ok) fun cas r hb hk h => by
  unfold gLatest at h
  split at h
  · rename_i sh len cap g
    obtain ⟨rfl, -⟩ := hk
    obtain ⟨hb, -⟩ := hb
    cases h
    refine ⟨rfl, ?_⟩
    show (evV K3 lLatest _ [.slice (some ⟨0, 0, none⟩) len cap] [.recs cpK len g]).sat _
    rw [run_latest]
    refine sat_tst (fun h => ?_) (fun h => ?_)
    · have : len = 0 := by simpa using h
      subst this
      rfl
    · have h0 : 0 < len := by have : ¬ len = 0 := by simpa using h
                              omega
      exact sat_ask ⟨by omega, by omega⟩ (sat_ask h0 (sat_ask ⟨by omega, by omega⟩ (sat_ask ⟨rfl, rfl, rfl, h0, hb, rfl⟩ rfl)))
  · cases h
theorem q_clist4 : QOk (K3.addQ 17 (listC [.rows cpK] gClist)).P 18 (listC [.rows cpK] gLatest) := q_latest
theorem K4_ok : K4.Ok := (K3_ok.addQ q_clist).addQ q_clist4
theorem q_store : QOk K4.P 7 (listC [.val, .val] gStore) := list_q K4_ok Try.func7 rfl rfl (no_loops rfl) fun cas r _hb _hk h => by
  unfold gStore at h
  split at h
  · rename_i t u s x y z
    cases h
    refine ⟨rfl, ?_⟩
    show (evV K4 noL _ [.agg ⟨[.int .i64 t, .int .i64 u, .string s]⟩, .agg ⟨[.int .i64 x, .int .i64 y, .string z]⟩] []).sat _
    rw [run_store]
    refine sat_tst (fun h => ?_) (fun h => ?_)
    · show [some (Value.tuple _)] = [some (Value.tuple ⟨[cvL (soV _ _), .int .i64 (soE _ _)]⟩)]
      rw [soV_no (ne_of_bne h)]
      rfl
    · show [some (Value.tuple _)] = [some (Value.tuple ⟨[cvL (soV _ _), .int .i64 (soE _ _)]⟩)]
      have e := eq_of_bne h
      rw [soV_yes e, show soE ((t, u), s) ((x, y), z) = 0 from e]
      rfl
  · cases h
theorem q_merge : QOk K4.P 10 (listC [.rows cpK] gMerge) := list_q K4_ok Try.func10 rfl rfl (no_loops rfl) fun cas r hb hk h => by
  unfold gMerge at h
  split at h
  · rename_i sh len cap g
    obtain ⟨rfl, -⟩ := hk
    obtain ⟨hb, -⟩ := hb
    cases h
    refine ⟨rfl, ?_⟩
    show (evV K4 noL _ [.slice (some ⟨0, 0, none⟩) len cap] [.recs cpK len g]).sat _
    rw [run_merge]
    refine sat_ask ⟨Nat.le_refl _, hb⟩ (sat_tst (fun h => ?_) (fun h => sat_ask ⟨Nat.le_refl _, hb⟩ ?_))
    · show [some (Value.tuple _)] = [some (Value.tuple ⟨[cvL (mgV _), .int .i64 (clE _)]⟩)]
      rw [show mgV (cpsOf len g) = cz from if_neg (ne_of_bne h)]
      rfl
    · show [some (Value.tuple _)] = [some (Value.tuple ⟨[cvL (mgV _), .int .i64 (clE _)]⟩)]
      rw [show mgV (cpsOf len g) = lats (cpsOf len g) from if_pos (eq_of_bne h), eq_of_bne h]
      rfl
  · cases h
theorem or_shl {z k : Nat} (hz : z < 2 ^ k) (hk : k < 12) : IntKind.wrap IntKind.u64 (↑(BitVec.toNat (BitVec.ofInt (IntKind.bits IntKind.u64) (z : Int) ||| BitVec.ofInt (IntKind.bits IntKind.u64) (shlV IntKind.u64 (1 : Int) (k : Int)))) : Int) = ((z + 2 ^ k : Nat) : Int) := by
  have h := or_pow hz (by omega : k < 64)
  rw [← h]
  have e : shlV IntKind.u64 1 (k : Int) = IntKind.u64.wrap (2 ^ k) := by
    unfold shlV
    have : min (Int.toNat (k : Int)) (IntKind.bits IntKind.u64) = k := by
      show min k 64 = k
      omega
    rw [this, Int.one_mul]
  rw [e]
  rfl
theorem loop_stale : LOk K4.P (bodyOf Try.f11 0) (lspec 34 keepStale 2 gStaleL) := lspec_ok K4_ok (L := noL) (fun c' _ F h => by cases h) fun Φ vs H k h => by
  unfold gStaleL at h
  split at h
  · rename_i z len cap n i sh m g T1 a b
    split at h
    · rename_i hsh
      have := shEq_eq hsh
      subst this
      obtain ⟨⟨rfl, rfl, rfl, rfl, hb⟩, h⟩ := h
      refine ⟨rfl, {j : Nat // j ≤ m}, fun i => [.pointer (some ⟨1, 0, none⟩), .int .u64 (slK (cpsOf m g) (a, b) i.1), .slice (some ⟨0, 0, none⟩) m cap, .int .i64 m, .int .i64 i.1],
        fun _ => [.recs cpK m g, .cells T1 [.int .i64 a, .int .i64 b]], fun i => m - i.1, ⟨0, by omega⟩, rfl, rfl, ?_⟩
      rintro ⟨j, hj⟩
      show (ev K4 noL _ ⟨mkSlots 34 [5, 6, 17, 18, 19] [.pointer (some ⟨1, 0, none⟩), .int .u64 (slK (cpsOf m g) (a, b) j), .slice (some ⟨0, 0, none⟩) m cap, .int .i64 m, .int .i64 j], [.recs cpK m g, .cells T1 [.int .i64 a, .int .i64 b]]⟩ (pk 34 keepStale 2)).sat _
      rw [run_staleB]
      refine sat_tst (fun ht => ?_) (fun ht => ?_)
      · have hlt : j < m := by have := of_decide_eq_true ht; omega
        have hat := cps_at g hlt
        have e : slK (cpsOf m g) (a, b) (j + 1) = slK (cpsOf m g) (a, b) j + if slt ((cpsOf m g)[j]?.getD cz).1 (a, b) = true then 2 ^ j else 0 := rfl
        rw [hat] at e
        replace e : slK (cpsOf m g) (a, b) (j + 1) = slK (cpsOf m g) (a, b) j + if slt (intV (hdV (g j)), intV (hdV (tlV (g j)))) (a, b) = true then 2 ^ j else 0 := e
        refine sat_ask ⟨by omega, by omega⟩ (sat_ask hlt (sat_tst (fun hc => sat_ask (by omega) ?_) (fun hc => ?_)))
        · refine ⟨⟨j + 1, by omega⟩, ?_, rfl, by show m - (j + 1) < m - j; omega⟩
          show [some _, some (Value.int .u64 _), some _, some _, some (Value.int .i64 _)] = [some _, some (Value.int .u64 (slK (cpsOf m g) (a, b) (j + 1) : Nat)), some _, some _, some (Value.int .i64 _)]
          rw [wrap_at hlt (by omega), or_shl (slK_lt _ _ j) (by omega), e, if_pos hc]
        · refine ⟨⟨j + 1, by omega⟩, ?_, rfl, by show m - (j + 1) < m - j; omega⟩
          show [some _, some (Value.int .u64 _), some _, some _, some (Value.int .i64 _)] = [some _, some (Value.int .u64 (slK (cpsOf m g) (a, b) (j + 1) : Nat)), some _, some _, some (Value.int .i64 _)]
          rw [wrap_at hlt (by omega), e, if_neg (by rw [hc]; decide)]
          rfl
      · have hge : j = m := by have := of_decide_eq_false ht; omega
        subst hge
        exact ⟨_, rfl, h⟩
    · exact h.elim
  · exact h.elim
theorem lStale_ok : ∀ F, lStale (key (bodyOf Try.f11 0)) = some F → LOk K4.P (bodyOf Try.f11 0) F := fun F h => by
  have hk : lStale (key (bodyOf Try.f11 0)) = some (lspec 34 keepStale 2 gStaleL) := by kernel_rfl
  rw [hk] at h
  cases h
  exact loop_stale
theorem q_stale : QOk K4.P 11 (listC [.rows cpK] gStale) := list_q K4_ok Try.func11 rfl rfl (one_loop (by kernel_rfl) lStale_ok) fun cas r hb hk h => by
  unfold gStale at h
  split at h
  · rename_i sh len cap g
    obtain ⟨rfl, -⟩ := hk
    obtain ⟨hb, -⟩ := hb
    cases h
    refine ⟨rfl, ?_⟩
    show (evV K4 lStale _ [.slice (some ⟨0, 0, none⟩) len cap] [.recs cpK len g]).sat _
    rw [run_stale]
    refine sat_ask ⟨Nat.le_refl _, hb⟩ (sat_tst (fun h => ?_) (fun h => ?_))
    · show [some (Value.tuple _)] = [some (Value.tuple ⟨[.int .u64 (slV _ : Nat), .int .i64 (clE _)]⟩)]
      rw [show slV (cpsOf len g) = 0 from if_neg (ne_of_bne h)]
      rfl
    · have e := eq_of_bne h
      have h12 := (clE_zero e).1
      rw [cps_len] at h12
      refine sat_ask ⟨Nat.le_refl _, hb⟩ (sat_ask ⟨rfl, rfl, rfl, rfl, h12⟩ ?_)
      show [some (Value.tuple _)] = [some (Value.tuple ⟨[.int .u64 (slV _ : Nat), .int .i64 (clE _)]⟩)]
      rw [show slV (cpsOf len g) = slK (cpsOf len g) (lats (cpsOf len g)).1 (cpsOf len g).length from if_pos e, e, cps_len]
  · cases h
theorem q_merge5 : QOk (K4.addQ 7 (listC [.val, .val] gStore)).P 10 (listC [.rows cpK] gMerge) := q_merge
theorem q_stale5 : QOk ((K4.addQ 7 (listC [.val, .val] gStore)).addQ 10 (listC [.rows cpK] gMerge)).P 11 (listC [.rows cpK] gStale) := q_stale
theorem K5_ok : K5.Ok := ((K4_ok.addQ q_store).addQ q_merge5).addQ q_stale5
end Go.Proofs.Ytcplbpnpcmgjfab
