/- What the reference's TimesOf answers: the product of two lists, each factor by itself, trimmed, in new memory, for all lists of bytes of no more than 2000 each. -/
import Derived.Test.YtlccdceeppfleaaValOf
namespace Go.Proofs.Ytlccdceeppfleaa
open Go.ChangeShapes Go.WideShapes Go.ChangeAt Go.RowKit Go.Shelf
/-- the product's first factors -/
def tN (P Q : List Nat) (n : Nat) : List Nat := (List.range n).map (M P (co Q))
theorem tN_len (P Q : List Nat) (n : Nat) : (tN P Q n).length = n := by simp [tN]
theorem tN_succ (P Q : List Nat) (n : Nat) : tN P Q (n + 1) = tN P Q n ++ [M P (co Q) n] := by simp [tN, List.range_succ]
theorem tN_all {P Q : List Nat} (hP : Byt P) (hQ : Byt Q) : trim (tN P Q (P.length + Q.length)) = pm P Q := by
  rw [← trim_pm]
  refine trim_ext fun j => ?_
  rw [co_pm hP hQ]
  by_cases h : j < P.length + Q.length
  · unfold co tN
    rw [List.getElem?_map, List.getElem?_range h]
    rfl
  · rw [co_high (by rw [tN_len]; omega), M_high P (m := Q.length) (fun k hk => co_high hk) (by omega) (.inr (by omega))]
theorem m_take {P : List Nat} (Q : List Nat) {i : Nat} (hi : i < P.length) (n : Nat) : M (P.take (i + 1)) (co Q) n = M (P.take i) (co Q) n ^^^ (if i ≤ n then Gf.gm (P[i]?.getD 0) (co Q (n - i)) else 0) := by
  rw [List.take_succ_eq_append_getElem hi, M_snoc, List.length_take, Nat.min_eq_left (by omega), List.getElem?_eq_getElem hi]
  rfl
set_option maxRecDepth 100000 in
set_option maxHeartbeats 4000000 in
theorem timesOf_any (av bv : Value) (P Q : List Nat) (w : World) (hP : Bs w.heap.size w av P) (hQ : Bs w.heap.size w bv Q) (lp : P.length ≤ 2000) (lq : Q.length ≤ 2000) :
    Calls Try.prog 28 #[av, bv] w fun e w' => ∃ v, e = .returned v ∧ Ow w.heap.size w' v (pm P Q) ∧ Below w.heap.size w w' := by
  have HA := hid_of (tN_all hP.1 hQ.1)
  obtain ⟨a1, a2, ao, cap, rfl, _, _, a6⟩ := hP
  obtain ⟨b1, b2, bo, cbp, rfl, _, _, b6⟩ := hQ
  have A6 := hid_of a6
  have B6 := hid_of b6
  have A1 := hid_of a1
  have B1 := hid_of b1
  obtain ⟨i0, hi, hz0, hz1, hz2⟩ := info_parts info5
  have hmx : Try.prog.follows Departure.mixedOrders = true := by kernel_rfl
  clear a6 b6 a1 b1
  go_enter Try.func28, Try.ntmps28
  go_wp2_with fail
  go_loopw [5, 6] (fun v i w' => ∃ k : Nat, k ≤ P.length + Q.length ∧ i = .int .i64 k ∧ Hid (Ow w.heap.size w' v (tN P Q k)) ∧ Hid (Below w.heap.size w w')) (fun _ i _ => P.length + Q.length - (intOf i).toNat)
  case atStart => exact ⟨0, by omega, rfl, ⟨World.ownsRow_nil _ _ _ _, by simp [tN], by simp [tN]⟩, Below.refl _ _⟩
  case round =>
    obtain ⟨k, hk, rfl, HO, HB⟩ := hrel
    rename_i v wr
    obtain ⟨va, vc, hvs⟩ := HO.out.shape
    rw [tN_len] at hvs
    subst hvs
    by_cases hp : k < P.length + Q.length
    · have dp : decide ((k : Int) < (P.length : Int) + (Q.length : Int)) = true := decide_eq_true (by omega)
      go_wp2_with fail
      go_loopw [7, 8] (fun c i w' => ∃ j : Nat, j ≤ P.length ∧ c = .int .u8 (M (P.take j) (co Q) k) ∧ i = .int .i64 j ∧ Hid (Ow w.heap.size w' (.slice va k vc) (tN P Q k)) ∧ Hid (Below w.heap.size w w')) (fun _ i _ => P.length - (intOf i).toNat)
      case atStart => exact ⟨0, by omega, rfl, rfl, HO, HB⟩
      clear HO HB
      case round =>
        obtain ⟨j, hj, rfl, rfl, HO, HB⟩ := hrel
        by_cases hjl : j < P.length
        · have hm := m_take Q hjl k
          have hcl := M_lt (byt_take A1.out j) (co Q) k
          obtain ⟨c, hce⟩ : ∃ c, M (P.take j) (co Q) k = c := ⟨_, rfl⟩
          rw [hce] at hm hcl ⊢
          by_cases hjk : j ≤ k
          · have t1 : decide ((j : Int) ≤ (k : Int)) = true := decide_eq_true (by omega)
            have hsub : IntKind.i64.wrap ((k : Int) - (j : Int)) = ((k - j : Nat) : Int) := by rw [IntKind.wrap_i64]; omega
            rw [if_pos hjk] at hm
            by_cases hq : k - j < Q.length
            · have t2 : decide (((k - j : Nat) : Int) < (Q.length : Int)) = true := decide_eq_true (by omega)
              rcases A6.out with h | ⟨b, off, rfl, hb, hc⟩
              · rw [h] at hjl; simp at hjl
              rcases B6.out with h | ⟨b', off', rfl, hb', hc'⟩
              · rw [h] at hq; simp at hq
              have hx := (HB.out.cell (p := ⟨b, off + j, none⟩) hb).trans (hc j hjl)
              have hy := (HB.out.cell (p := ⟨b', off' + (k - j), none⟩) hb').trans (hc' (k - j) hq)
              have hx2 := getD_lt A1.out j
              have hy2 := getD_lt B1.out (k - j)
              have hm2 : M (P.take (j + 1)) (co Q) k = c ^^^ Gf.gm (P[j]?.getD 0) (Q[k - j]?.getD 0) := hm
              obtain ⟨x, hxe⟩ : ∃ x, P[j]?.getD 0 = x := ⟨_, rfl⟩
              obtain ⟨y, hye⟩ : ∃ y, Q[k - j]?.getD 0 = y := ⟨_, rfl⟩
              rw [hxe] at hx hx2 hm2
              rw [hye] at hy hy2 hm2
              have h7 := u8_xor_nat c _ hcl (Gf.gm_lt (a := x) (b := y) hx2)
              have HM := hid_of hm2
              obtain ⟨s, hse⟩ : ∃ s, k - j = s := ⟨_, rfl⟩
              rw [hse] at hsub t2 hy hq
              clear hm hm2 hxe hye hc hc' hce
              go_wp2_with fail
              go_quiet (first | (go_at_call 33; exact Calls.quiet_of_same (mulOf_any x y _ (by omega) (by omega))))
              go_wp2_with fail
              go_roundw
              case rel => exact ⟨j + 1, by omega, by rw [HM.out], by go_num, HO, below_drewN _ HB.out⟩
              case measure => simp [intOf]; omega
            · have t2 : decide (((k - j : Nat) : Int) < (Q.length : Int)) = false := decide_eq_false (by omega)
              rw [co_high (by omega), Gf.gm_zeroR, Nat.xor_zero] at hm
              have HM := hid_of hm
              obtain ⟨s, hse⟩ : ∃ s, k - j = s := ⟨_, rfl⟩
              rw [hse] at hsub t2 hq
              clear hm hce
              go_wp2_with fail
              go_roundw
              case rel => exact ⟨j + 1, by omega, by rw [HM.out], by go_num, HO, HB⟩
              case measure => simp [intOf]; omega
          · have t1 : decide ((j : Int) ≤ (k : Int)) = false := decide_eq_false (by omega)
            rw [if_neg hjk, Nat.xor_zero] at hm
            have HM := hid_of hm
            clear hm hce
            go_wp2_with fail
            go_roundw
            case rel => exact ⟨j + 1, by omega, by rw [HM.out], by go_num, HO, HB⟩
            case measure => simp [intOf]; omega
        · have ht : P.take j = P := List.take_of_length_le (by omega)
          have hcl := M_lt A1.out (co Q) k
          have hsn := tN_succ P Q k
          rw [ht]
          obtain ⟨y, hye⟩ : ∃ c, M P (co Q) k = c := ⟨_, rfl⟩
          rw [hye] at hcl hsn ⊢
          have HS := hid_of hsn
          have HOA := hid_of (HO.out.below ((Below.refl wr.heap.size wr).alloc (Nat.le_refl _) (.cells #[.int .u8 ((y : Nat) : Int)] 5)) (Nat.le_refl _))
          have HBA := hid_of (HB.out.alloc HB.out.size (.cells #[.int .u8 ((y : Nat) : Int)] 5))
          clear hsn hye ht
          go_wp2_with (at_builtin; refine wpList_append_own _ rfl _ _ 22 rfl w.heap.size 5 i0 (.int .u8 0) 1 1 und22 hi hz0 hz1 hz2 rfl (by decide) _ k (cellsB (tN P Q k)) rfl (by have h := HOA.out.1; rw [tN_len] at h; exact h) ⟨wr.heap.size, 0, none⟩ 1 1 [.int .u8 ((y : Nat) : Int)] rfl rfl (fun j u hj => by exact news_one wr _ j u hj) (by simp [Value.oneCell']) (by unfold maxLen; omega) (by omega) (by have := HB.out.size; simp; omega) ?_; intro v' w3 hown hgrow hnil)
          go_roundw
          case rel =>
            refine ⟨k + 1, by omega, by go_num, ?_, HBA.out.grown hgrow (by have := HB.out.size; simp; omega) HOA.out.block_le⟩
            rw [HS.out]
            exact ow_snoc HOA.out (by rw [tN_len]; omega) hcl (by rw [tN_len]; exact hown)
          case measure => simp [intOf]; omega
    · have dp : decide ((k : Int) < (P.length : Int) + (Q.length : Int)) = false := decide_eq_false (by omega)
      have hke : k = P.length + Q.length := by omega
      have HKE := hid_of hke
      have sO := hid_of HO.out.bs
      clear hke
      go_wp2_with (go_at_call 18; refine (trimOf_any _ (tN P Q k) _ (by have := sO.out; exact this)).mono ?_; rintro e w1 ⟨v1, rfl, hO1, hB1⟩)
      go_ret
      refine ⟨_, rfl, ?_, HB.out.trans (hB1.mono HB.out.size)⟩
      rw [HKE.out, HA.out] at hO1
      exact hO1.mono HB.out.size
end Go.Proofs.Ytlccdceeppfleaa
