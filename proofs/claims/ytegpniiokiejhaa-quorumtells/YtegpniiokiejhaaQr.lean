/- What the reference's WeightsCheck, QuorumCheck, SumOf and SumNo answer. -/
import Derived.Test.YtegpniiokiejhaaQx
namespace Go.Proofs.Ytegpniiokiejhaa
open Go.ChangeShapes Go.WideShapes Go.ChangeAt Go.RowKit Go.Shelf
theorem take_bd {L : List Int} {k : Nat} (h : ∀ i, i < k → 0 ≤ L[i]?.getD 0 ∧ L[i]?.getD 0 ≤ 100) (hk : k ≤ L.length) : 0 ≤ (L.take k).sum ∧ (L.take k).sum ≤ 100 * (k : Int) := by
  induction k with
  | zero => simp
  | succ k ih =>
    have := ih (fun i hi => h i (by omega)) (by omega)
    have := h k (by omega)
    rw [take_sum (by omega)]
    push_cast
    omega
theorem any_bad {L : List Int} {k : Nat} (hk : k < L.length) (h : wbad (L[k]?.getD 0) = true) : L.any wbad = true := by
  rw [List.any_eq_true]
  rw [List.getElem?_eq_getElem hk] at h
  exact ⟨_, List.getElem_mem hk, h⟩
theorem not_bad {L : List Int} (h : ∀ i, i < L.length → 0 ≤ L[i]?.getD 0 ∧ L[i]?.getD 0 ≤ 100) : L.any wbad = false :=
  wbad_of fun x hx => by
    obtain ⟨i, hi, rfl⟩ := List.getElem_of_mem hx
    have := h i hi
    rwa [List.getElem?_eq_getElem hi] at this
set_option maxHeartbeats 1000000 in
theorem wCheck_any (v : Value) (L : List Int) (N : Nat) (w : World) (hL : Is N w v L) :
    Calls Try.prog 46 #[v] w fun e w' => e = .returned (.tuple #[.int .i64 (if qce L = 0 then L.sum else 0), .int .i64 (qce L)]) ∧ w' = w := by
  have HL := hid_of hL
  have hl2 := hL.1
  obtain ⟨a, cc, rfl⟩ := hL.shape
  clear hL
  by_cases c1 : L.length = 0
  · have h0 : qce L = 8 := by unfold qce; rw [if_pos c1]
    rw [h0, if_neg (by omega), c1]
    go_enter Try.func46, Try.ntmps46
    go_wp2_with fail
    go_ret2
    exact ⟨rfl, rfl⟩
  have t1 : ((L.length : Int) == 0) = false := beq_eq_false_iff_ne.2 (by omega)
  by_cases c2 : 12 < L.length
  · have h0 : qce L = 2 := by unfold qce; rw [if_neg c1, if_pos c2]
    rw [h0, if_neg (by omega)]
    go_enter Try.func46, Try.ntmps46
    go_wp2_with fail
    go_ret2
    exact ⟨rfl, rfl⟩
  have t2 : ¬ (12 < (L.length : Int)) := by omega
  have HQ : Hid (L.any wbad = true → qce L = 3) := hid_of fun h => by unfold qce; rw [if_neg c1, if_neg c2, if_pos h]
  have HZ : Hid (L.any wbad = false → qce L = 0) := hid_of fun h => by unfold qce; rw [if_neg c1, if_neg c2, h]; rfl
  generalize qce L = q at *
  go_enter Try.func46, Try.ntmps46
  go_wp2_with fail
  go_loopw [4, 5] (fun s i w' => ∃ k : Nat, k ≤ L.length ∧ s = .int .i64 (L.take k).sum ∧ i = .int .i64 k ∧ Hid (∀ i, i < k → 0 ≤ L[i]?.getD 0 ∧ L[i]?.getD 0 ≤ 100) ∧ w' = w) (fun _ i _ => L.length - (intOf i).toNat)
  case atStart => exact ⟨0, by omega, rfl, rfl, fun i hi => by omega, rfl⟩
  case round =>
    obtain ⟨k, hk, rfl, rfl, HB, hw⟩ := hrel
    subst hw
    obtain ⟨q1, q2⟩ := take_bd HB.out hk
    by_cases hlt : k < L.length
    · obtain ⟨b, off, rfl, hx⟩ := HL.out.at hlt
      have HT := hid_of (take_sum hlt)
      have HA := hid_of (any_bad hlt)
      have HB2 : Hid (0 ≤ L[k]?.getD 0 ∧ L[k]?.getD 0 ≤ 100 → ∀ i, i < k + 1 → 0 ≤ L[i]?.getD 0 ∧ L[i]?.getD 0 ≤ 100) := hid_of fun h i hi => by
        by_cases e : i = k
        · subst e; exact h
        · exact HB.out i (by omega)
      obtain ⟨x, hxe⟩ : ∃ x, L[k]?.getD 0 = x := ⟨_, rfl⟩
      rw [hxe] at hx HT HA HB2
      clear hxe
      by_cases d1 : x < 0
      · have hq := HQ.out (HA.out (by unfold wbad; rw [decide_eq_true d1]; rfl))
        subst hq
        go_wp2_with fail
        go_ret2
        exact ⟨rfl, rfl⟩
      by_cases d2 : 100 < x
      · have hq := HQ.out (HA.out (by unfold wbad; rw [decide_eq_true d2, Bool.or_true]))
        subst hq
        go_wp2_with fail
        go_ret2
        exact ⟨rfl, rfl⟩
      have HB3 := hid_of (HB2.out ⟨by omega, by omega⟩)
      generalize (L.take k).sum = y at *
      go_wp2_with fail
      go_roundw
      case rel => exact ⟨k + 1, by omega, by rw [HT.out], by go_num, HB3, trivial⟩
      case measure => simp [intOf]; omega
    · have hke : k = L.length := by omega
      subst hke
      have hq := HZ.out (not_bad HB.out)
      subst hq
      have hta : L.take L.length = L := List.take_length
      rw [hta]
      rw [hta] at q1 q2
      clear hta
      go_wp2_with fail
      go_ret2
      exact ⟨rfl, rfl⟩
set_option maxHeartbeats 1000000 in
theorem qCheck_any (v : Value) (L : List Int) (need : Int) (N : Nat) (w : World) (hL : Is N w v L) :
    Calls Try.prog 26 #[v, .int .i64 need] w fun e w' => e = .returned (.int .i64 (qk L need)) ∧ w' = w := by
  have HC := hid_of (wCheck_any v L N w hL)
  have HK := hid_of (@qce_ok L)
  have HQ : Hid (qk L need = if qce L = 0 then qck need L.sum else qce L) := rfl
  generalize qk L need = r at HQ ⊢
  generalize qce L = q at *
  clear hL
  by_cases c0 : q = 0
  · obtain ⟨s1, s2⟩ := (HK.out c0).sum
    rw [if_pos c0] at HQ HC
    subst c0
    generalize L.sum = all at *
    unfold qck at HQ
    by_cases d1 : need < 1
    · rw [if_pos (.inl d1)] at HQ
      have hr := HQ.out
      subst hr
      go_enter Try.func26, Try.ntmps26
      go_wp2_with fail
      refine HC.out.mono ?_
      rintro e w1 ⟨rfl, hw⟩
      subst hw
      go_wp2_with fail
      go_ret
      exact ⟨rfl, rfl⟩
    by_cases d2 : all < need
    · rw [if_pos (.inr d2)] at HQ
      have hr := HQ.out
      subst hr
      go_enter Try.func26, Try.ntmps26
      go_wp2_with fail
      refine HC.out.mono ?_
      rintro e w1 ⟨rfl, hw⟩
      subst hw
      go_wp2_with fail
      go_ret
      exact ⟨rfl, rfl⟩
    rw [if_neg (by omega)] at HQ
    by_cases d3 : 2 * need ≤ all
    · rw [if_pos d3] at HQ
      have d3' : need * 2 ≤ all := by omega
      have hr := HQ.out
      subst hr
      go_enter Try.func26, Try.ntmps26
      go_wp2_with fail
      refine HC.out.mono ?_
      rintro e w1 ⟨rfl, hw⟩
      subst hw
      go_wp2_with fail
      go_ret
      exact ⟨rfl, rfl⟩
    · rw [if_neg d3] at HQ
      have d3' : ¬ need * 2 ≤ all := by omega
      have hr := HQ.out
      subst hr
      go_enter Try.func26, Try.ntmps26
      go_wp2_with fail
      refine HC.out.mono ?_
      rintro e w1 ⟨rfl, hw⟩
      subst hw
      go_wp2_with fail
      go_ret
      exact ⟨rfl, rfl⟩
  · rw [if_neg c0] at HQ HC
    have tx : (q != 0) = true := by rw [bne_iff_ne]; exact c0
    have hr := HQ.out
    subst hr
    go_enter Try.func26, Try.ntmps26
    go_wp2_with fail
    refine HC.out.mono ?_
    rintro e w1 ⟨rfl, hw⟩
    subst hw
    go_wp2_with fail
    go_ret
    exact ⟨rfl, rfl⟩
set_option maxHeartbeats 1000000 in
theorem sumOf_any (v : Value) (L : List Int) (s : Nat) (N : Nat) (w : World) (hs : s < 18446744073709551616) (hL : Is N w v L) (hW : Wok L) :
    Calls Try.prog 47 #[v, .int .u64 s] w fun e w' => e = .returned (.int .i64 (sm L s L.length)) ∧ w' = w := by
  have HI := hid_of hL
  have HW := hid_of hW
  have HS := hid_of hs
  have hl := hW.l2
  obtain ⟨a, c, rfl⟩ := hL.shape
  clear hL hW hs
  go_enter Try.func47, Try.ntmps47
  go_wp2_with fail
  go_loopw [5, 6] (fun y i w' => ∃ k : Nat, k ≤ L.length ∧ y = .int .i64 (sm L s k) ∧ i = .int .i64 k ∧ w' = w) (fun _ i _ => L.length - (intOf i).toNat)
  case atStart => exact ⟨0, by omega, rfl, rfl, rfl⟩
  case round =>
    obtain ⟨k, hk, rfl, rfl, hw⟩ := hrel
    subst hw
    obtain ⟨q1, q2⟩ := HW.out.sm s k hk
    by_cases hlt : k < L.length
    · obtain ⟨b, off, rfl, hx⟩ := HI.out.at hlt
      obtain ⟨x1, x2⟩ := HW.out.at hlt
      have HT : Hid (sm L s (k + 1) = sm L s k + if bt s k = true then L[k]?.getD 0 else 0) := rfl
      obtain ⟨x, hxe⟩ : ∃ x, L[k]?.getD 0 = x := ⟨_, rfl⟩
      rw [hxe] at hx HT x1 x2
      clear hxe
      have HIn := hid_of (inSet_any s k wr HS.out (by omega))
      cases c5 : bt s k
      · rw [c5] at HT HIn
        have HT2 : Hid (sm L s (k + 1) = sm L s k) := hid_of (by rw [HT.out]; simp)
        clear c5 HT
        generalize sm L s k = y at *
        go_wp2_with fail
        refine HIn.out.mono ?_
        rintro e w2 ⟨rfl, hw⟩
        subst hw
        go_wp2_with fail
        go_roundw
        case rel => exact ⟨k + 1, by omega, by rw [HT2.out], by go_num, trivial⟩
        case measure => simp [intOf]; omega
      · rw [c5] at HT HIn
        have HT2 : Hid (sm L s (k + 1) = sm L s k + x) := hid_of (by rw [HT.out]; simp)
        clear c5 HT
        generalize sm L s k = y at *
        go_wp2_with fail
        refine HIn.out.mono ?_
        rintro e w2 ⟨rfl, hw⟩
        subst hw
        go_wp2_with fail
        go_roundw
        case rel => exact ⟨k + 1, by omega, by rw [HT2.out], by go_num, trivial⟩
        case measure => simp [intOf]; omega
    · have hke : k = L.length := by omega
      subst hke
      go_wp2_with fail
      go_ret
      exact ⟨rfl, rfl⟩
theorem pow_wrap {n : Nat} (h : n ≤ 12) : IntKind.u64.wrap (2 ^ n) = ((2 ^ n : Nat) : Int) := by
  have h1 := pow_small h
  have h2 := Nat.two_pow_pos n
  have e : (2 : Int) ^ n = ((2 ^ n : Nat) : Int) := by push_cast; rfl
  rw [e]
  generalize 2 ^ n = M at *
  exact Go.IntWalk.u64_in _ (by omega)
set_option maxHeartbeats 1000000 in
theorem sumNo_any (v : Value) (L : List Int) (s : Nat) (N : Nat) (w : World) (hs : s < 18446744073709551616) (hL : Is N w v L) :
    Calls Try.prog 25 #[v, .int .u64 s] w fun e w' => e = .returned (.tuple #[.int .i64 (smV L s), .int .i64 (smE L s)]) ∧ w' = w := by
  have HC := hid_of (wCheck_any v L N w hL)
  have HK := hid_of (@qce_ok L)
  have HSu := hid_of (fun hW => sumOf_any v L s N w hs hL hW)
  have HV : Hid (smV L s = if smE L s = 0 then sm L s L.length else 0) := rfl
  have HE : Hid (smE L s = if qce L = 0 then (if s < 2 ^ L.length then 0 else 3) else qce L) := rfl
  generalize smV L s = u at HV ⊢
  generalize smE L s = x at HV HE ⊢
  generalize qce L = q at *
  obtain ⟨a, c, rfl⟩ := hL.shape
  clear hL
  by_cases c0 : q = 0
  · have HW := hid_of (HK.out c0)
    have hl := HW.out.l2
    rw [if_pos c0] at HE HC
    subst c0
    have hpw := pow_wrap hl
    have hpb := pow_small hl
    generalize 2 ^ L.length = M at *
    by_cases d : s < M
    · rw [if_pos d] at HE
      have hx := HE.out
      subst hx
      rw [if_pos rfl] at HV
      have hv := HV.out
      subst hv
      have t1 : ¬ (M : Int) ≤ (s : Int) := by omega
      go_enter Try.func25, Try.ntmps25
      go_wp2_with fail
      refine HC.out.mono ?_
      rintro e w1 ⟨rfl, hw⟩
      subst hw
      go_wp2_with fail
      refine (HSu.out HW.out).mono ?_
      rintro e w1 ⟨rfl, hw⟩
      subst hw
      go_wp2_with fail
      go_ret2
      exact ⟨rfl, rfl⟩
    · rw [if_neg d] at HE
      have hx := HE.out
      subst hx
      rw [if_neg (by omega)] at HV
      have hv := HV.out
      subst hv
      have t1 : (M : Int) ≤ (s : Int) := by omega
      go_enter Try.func25, Try.ntmps25
      go_wp2_with fail
      refine HC.out.mono ?_
      rintro e w1 ⟨rfl, hw⟩
      subst hw
      go_wp2_with fail
      go_ret2
      exact ⟨rfl, rfl⟩
  · rw [if_neg c0] at HE HC
    have hx := HE.out
    subst hx
    rw [if_neg c0] at HV
    have hv := HV.out
    subst hv
    have tx : (x != 0) = true := by rw [bne_iff_ne]; exact c0
    have ty : (x == 0) = false := beq_eq_false_iff_ne.2 c0
    go_enter Try.func25, Try.ntmps25
    go_wp2_with fail
    refine HC.out.mono ?_
    rintro e w1 ⟨rfl, hw⟩
    subst hw
    go_wp2_with fail
    go_ret2
    exact ⟨rfl, rfl⟩
end Go.Proofs.Ytegpniiokiejhaa
