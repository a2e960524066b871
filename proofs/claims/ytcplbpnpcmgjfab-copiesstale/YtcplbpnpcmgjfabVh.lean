/- CopiesStale's run. -/
import Derived.Test.YtcplbpnpcmgjfabVg
namespace Go.Proofs.Ytcplbpnpcmgjfab
open Go.RowKit
theorem run_slB (len cap i j : Nat) (g : Nat → List Value) (s : Int) (b t : Bool) : ev K9 noL (bodyOf Try.f5 0) ⟨mkSlots 70 [0, 1, 5, 7, 8, 9] [.slice (some ⟨0, 0, none⟩) len cap, .int .i64 i, .int .u64 s, .bool b, .bool t, .int .i64 j], [.recs cpK len g]⟩ (pk 70 keepSL 1) = tst (decide ((↑j : Int) < (↑len : Int))) (tst b (tst t (Out.done AE.normal { slots := [some (Value.slice (some { block := (0 : Nat), off := (0 : Nat) }) len cap), some (Value.int IntKind.i64 (↑i : Int)), some (Value.int IntKind.u64 s), some (Value.bool true), some (Value.bool true), some (Value.int IntKind.i64 (IntKind.wrap IntKind.i64 ((↑j : Int) + (1 : Int))))], heap := [AObj.recs cpK len g] }) (Out.ask (aInSet [CA.val (Value.int IntKind.u64 s), CA.val (Value.int IntKind.i64 (↑j : Int))]) (Out.done AE.normal { slots := [some (Value.slice (some { block := (0 : Nat), off := (0 : Nat) }) len cap), some (Value.int IntKind.i64 (↑i : Int)), some (Value.int IntKind.u64 s), some (Value.bool true), some (Value.bool !inS s (↑j : Int)), some (Value.int IntKind.i64 (IntKind.wrap IntKind.i64 ((↑j : Int) + (1 : Int))))], heap := [AObj.recs cpK len g] }))) (Out.ask ((0 : Int) ≤ (↑i : Int) ∧ (↑i : Int) < (↑len : Int)) (Out.ask (i < len) (Out.ask ((0 : Int) ≤ (↑j : Int) ∧ (↑j : Int) < (↑len : Int)) (Out.ask (j < len) (tst t (Out.done AE.normal { slots := [some (Value.slice (some { block := (0 : Nat), off := (0 : Nat) }) len cap), some (Value.int IntKind.i64 (↑i : Int)), some (Value.int IntKind.u64 s), some (Value.bool (slt (intV (hdV (g i)), intV (hdV (tlV (g i)))) (intV (hdV (g j)), intV (hdV (tlV (g j)))))), some (Value.bool true), some (Value.int IntKind.i64 (IntKind.wrap IntKind.i64 ((↑j : Int) + (1 : Int))))], heap := [AObj.recs cpK len g] }) (Out.ask (aInSet [CA.val (Value.int IntKind.u64 s), CA.val (Value.int IntKind.i64 (↑j : Int))]) (Out.done AE.normal { slots := [some (Value.slice (some { block := (0 : Nat), off := (0 : Nat) }) len cap), some (Value.int IntKind.i64 (↑i : Int)), some (Value.int IntKind.u64 s), some (Value.bool (slt (intV (hdV (g i)), intV (hdV (tlV (g i)))) (intV (hdV (g j)), intV (hdV (tlV (g j)))))), some (Value.bool !inS s (↑j : Int)), some (Value.int IntKind.i64 (IntKind.wrap IntKind.i64 ((↑j : Int) + (1 : Int))))], heap := [AObj.recs cpK len g] })))))))) (Out.done (AE.exit (0 : Nat)) { slots := [some (Value.slice (some { block := (0 : Nat), off := (0 : Nat) }) len cap), some (Value.int IntKind.i64 (↑i : Int)), some (Value.int IntKind.u64 s), some (Value.bool b), some (Value.bool t)], heap := [AObj.recs cpK len g] }) := by kernel_rfl
theorem run_sl (len cap : Nat) (g : Nat → List Value) (i : Int) : evV K9 lSL Try.f5 [.slice (some ⟨0, 0, none⟩) len cap, .int .i64 i] [.recs cpK len g] = Out.ask (len ≤ len ∧ len ≤ (140737488355328 : Nat)) (tst (clE (cpsOf len g) != (0 : Int)) (tst (clE (cpsOf len g) == (0 : Int)) (Out.done AE.ret { slots := [some (Value.bool true)], heap := [] }) (Out.done AE.ret { slots := [some (Value.bool ((↑(slV (cpsOf len g)) : Int) == (0 : Int)))], heap := [] })) (tst (decide (i < (0 : Int))) (tst (clE (cpsOf len g) == (0 : Int)) (Out.done AE.ret { slots := [some (Value.bool true)], heap := [] }) (Out.done AE.ret { slots := [some (Value.bool ((↑(slV (cpsOf len g)) : Int) == (0 : Int)))], heap := [] })) (tst (decide (i ≥ (↑len : Int))) (tst (clE (cpsOf len g) == (0 : Int)) (Out.done AE.ret { slots := [some (Value.bool true)], heap := [] }) (Out.done AE.ret { slots := [some (Value.bool ((↑(slV (cpsOf len g)) : Int) == (0 : Int)))], heap := [] })) (Out.ask (false = false ∧ false = false ∧ (0 : Int) = (0 : Int) ∧ len = len ∧ len ≤ (12 : Nat) ∧ (0 : Int) ≤ i ∧ i < (↑len : Int)) (tst (tpK (↑(slV (cpsOf len g)) : Int) len) (Out.ask (aInSet [CA.val (Value.int IntKind.u64 (↑(slV (cpsOf len g)) : Int)), CA.val (Value.int IntKind.i64 i)]) (Out.done AE.ret { slots := [some (Value.bool (inS (↑(slV (cpsOf len g)) : Int) i == abv (cpsOf len g) (Int.toNat i) len))], heap := [] })) (Out.done AE.ret { slots := [some (Value.bool false)], heap := [] })))))) := by kernel_rfl

theorem abv_eq {L : List Cp} {i : Nat} (hi : i < L.length) : abv L i L.length = slt (L[i]?.getD cz).1 (lats L).1 := by
  obtain ⟨j, hj, e⟩ := lats_top (L := L) (by omega)
  rw [e]
  cases h : abv L i L.length with
  | true =>
    obtain ⟨m, h1, h2⟩ := abv_true h
    have h3 := hj.2.1 m h1
    symm
    rw [slt_iff] at h2 ⊢
    rw [slt_niff] at h3
    omega
  | false => exact (abv_false h j hj.1).symm
theorem tp_some {s k j : Nat} (hjk : j < k) (hk : k ≤ 64) (h : s.testBit j = false) : tpK s k = true := by
  induction k with
  | zero => omega
  | succ k ih =>
    rw [tpK]
    by_cases e : j = k
    · subst e
      rw [inS_bit (by omega), h]
      simp
    · rw [ih (by omega) (by omega)]
      rfl
theorem loop_sl : LOk K9.P (bodyOf Try.f5 0) (lspec 70 keepSL 1 gSL) := lspec_ok K9_ok (L := noL) (fun c' _ F h => by cases h) fun Φ vs H k h => by
  unfold gSL at h
  split at h
  · rename_i len cap i s b t j0 sh m g
    split at h
    · rename_i hsh
      have := shEq_eq hsh
      subst this
      obtain ⟨⟨rfl, rfl, rfl, rfl, hb, hi0, hi1⟩, h⟩ := h
      obtain ⟨i, rfl⟩ : ∃ i' : Nat, i = (i' : Int) := ⟨i.toNat, by omega⟩
      have hi : i < m := by omega
      rw [show Int.toNat (i : Int) = i from rfl] at h
      refine ⟨rfl, {j : Nat // j ≤ m}, fun j => [.slice (some ⟨0, 0, none⟩) m cap, .int .i64 i, .int .u64 s, .bool (abv (cpsOf m g) i j.1), .bool (tpK s j.1), .int .i64 j.1], fun _ => [.recs cpK m g], fun i => m - i.1, ⟨0, by omega⟩, rfl, rfl, ?_⟩
      rintro ⟨j, hj⟩
      show (ev K9 noL _ ⟨mkSlots 70 [0, 1, 5, 7, 8, 9] [.slice (some ⟨0, 0, none⟩) m cap, .int .i64 i, .int .u64 s, .bool (abv (cpsOf m g) i j), .bool (tpK s j), .int .i64 j], [.recs cpK m g]⟩ (pk 70 keepSL 1)).sat _
      rw [run_slB]
      refine sat_tst (fun ht => ?_) (fun ht => ?_)
      · have hlt : j < m := by have := of_decide_eq_true ht; omega
        have e1 : abv (cpsOf m g) i (j + 1) = (abv (cpsOf m g) i j || slt ((cpsOf m g)[i]?.getD cz).1 ((cpsOf m g)[j]?.getD cz).1) := rfl
        have e2 : tpK s (j + 1) = (tpK s j || !inS s j) := rfl
        rw [cps_at g hlt, cps_at g hi] at e1
        have e1' : abv (cpsOf m g) i (j + 1) = (abv (cpsOf m g) i j || slt (intV (hdV (g i)), intV (hdV (tlV (g i)))) (intV (hdV (g j)), intV (hdV (tlV (g j))))) := e1
        clear e1
        have fin : ∀ B T : Bool, B = abv (cpsOf m g) i (j + 1) → T = tpK s (j + 1) → ∃ i' : {j : Nat // j ≤ m}, [some (Value.slice (some { block := (0 : Nat), off := (0 : Nat) }) m cap), some (Value.int IntKind.i64 (i : Int)), some (Value.int IntKind.u64 s), some (Value.bool B), some (Value.bool T), some (Value.int IntKind.i64 (IntKind.wrap IntKind.i64 ((j : Int) + (1 : Int))))] = someL ((fun j : {j : Nat // j ≤ m} => [.slice (some ⟨0, 0, none⟩) m cap, .int .i64 i, .int .u64 s, .bool (abv (cpsOf m g) i j.1), .bool (tpK s j.1), .int .i64 j.1]) i') ∧ [AObj.recs cpK m g] = [AObj.recs cpK m g] ∧ m - i'.1 < m - j := by
          intro B T hB hT
          subst hB hT
          refine ⟨⟨j + 1, by omega⟩, ?_, rfl, by show m - (j + 1) < m - j; omega⟩
          rw [wrap_at hlt (by omega)]
          rfl
        refine sat_tst (fun hB => ?_) (fun hB => sat_ask ⟨by omega, by omega⟩ (sat_ask hi (sat_ask ⟨by omega, by omega⟩ (sat_ask hlt ?_))))
        · rw [hB] at e1'
          refine sat_tst (fun hT => ?_) (fun hT => sat_ask (Int.natCast_nonneg j) ?_)
          · rw [hT] at e2
            exact fin _ _ e1'.symm e2.symm
          · rw [hT] at e2
            exact fin _ _ e1'.symm e2.symm
        · rw [hB] at e1'
          refine sat_tst (fun hT => ?_) (fun hT => sat_ask (Int.natCast_nonneg j) ?_)
          · rw [hT] at e2
            exact fin _ _ e1'.symm e2.symm
          · rw [hT] at e2
            exact fin _ _ e1'.symm e2.symm
      · have hge : j = m := by have := of_decide_eq_false ht; omega
        subst hge
        exact ⟨_, rfl, h⟩
    · exact h.elim
  · exact h.elim
theorem lSL_ok : ∀ F, lSL (key (bodyOf Try.f5 0)) = some F → LOk K9.P (bodyOf Try.f5 0) F := fun F h => by
  have hk : lSL (key (bodyOf Try.f5 0)) = some (lspec 70 keepSL 1 gSL) := by kernel_rfl
  rw [hk] at h
  cases h
  exact loop_sl
theorem sl_sat (len cap : Nat) (g : Nat → List Value) (i : Int) (hb : len ≤ 140737488355328) : (evV K9 lSL Try.f5 [.slice (some ⟨0, 0, none⟩) len cap, .int .i64 i] [.recs cpK len g]).sat fun _ S => S.slots = [some (.bool true)] := by
  rw [run_sl]
  refine sat_ask ⟨Nat.le_refl _, hb⟩ (sat_tst (fun h => ?_) (fun h => ?_))
  · have h0 : clE (cpsOf len g) ≠ 0 := ne_of_bne h
    refine sat_tst (fun h => rfl) (fun _ => ?_)
    show _ = _
    rw [show slV (cpsOf len g) = 0 from if_neg h0]
    rfl
  · have e := eq_of_bne h
    have h12 := (clE_zero e).1
    rw [cps_len] at h12
    have hq : (clE (cpsOf len g) == (0 : Int)) = true := by rw [e]; rfl
    refine sat_tst (fun _ => ?_) (fun h1 => sat_tst (fun _ => ?_) (fun h2 => ?_))
    · rw [hq]; rfl
    · rw [hq]; rfl
    · have h1 := of_decide_eq_false h1
      have h2 := of_decide_eq_false h2
      obtain ⟨i, rfl⟩ : ∃ i' : Nat, i = (i' : Int) := ⟨i.toNat, by omega⟩
      have hi : i < len := by omega
      have hs : slV (cpsOf len g) = slK (cpsOf len g) (lats (cpsOf len g)).1 len := by
        rw [show slV (cpsOf len g) = slK (cpsOf len g) (lats (cpsOf len g)).1 (cpsOf len g).length from if_pos e, cps_len]
      have ht : tpK (slV (cpsOf len g) : Nat) len = true := by
        obtain ⟨j, hj, e2⟩ := lats_top (L := cpsOf len g) (by rw [cps_len]; omega)
        have hjl := hj.1
        rw [cps_len] at hjl
        refine tp_some hjl (by omega) ?_
        rw [hs, slK_bit _ _ _ _ hjl, ← e2]
        exact slt_irr _
      rw [ht]
      refine sat_ask ⟨rfl, rfl, rfl, rfl, h12, by omega, by omega⟩ (sat_ask (Int.natCast_nonneg i) ?_)
      show [some (Value.bool _)] = _
      have e3 := abv_eq (L := cpsOf len g) (i := i) (by rw [cps_len]; exact hi)
      rw [cps_len] at e3
      rw [show Int.toNat (i : Int) = i from rfl, e3, inS_bit (by omega), hs, slK_bit _ _ _ _ hi]
      simp
end Go.Proofs.Ytcplbpnpcmgjfab
