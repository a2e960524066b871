/- What becomes of a bid by a vote: every way of the reference's. -/
import Derived.Test.YtbmbnbhedalcnabPl
namespace Go.Proofs.Ytbmbnbhedalcnab
open Go.RowKit
section
variable {m : Nat} {g : Nat → List Value} {need no a p : Int} {o v : ByteArray} {t w : Int} {s : ByteArray} {hd k bd n x y : Int} {z : ByteArray}
/-- does the vote fit the phase? -/
def fitB (a p no k x y : Int) : Prop := p = 1 ∧ k = 2 ∨ p = 2 ∧ k = 4 ∧ x = a ∧ y = no
theorem wait_f (h : x_wait a p hd m no k bd n x y = true) : bd = no ∧ n < m ∧ bitAt hd n ≠ 1 ∧ fitB a p no k x y := by
  unfold x_wait at h
  cases h1 : (bd != no) with
  | true => rw [h1] at h; cases h
  | false =>
    rw [h1, cond_false] at h
    cases h2 : decide (n ≥ (m : Int)) with
    | true => rw [h2] at h; cases h
    | false =>
      rw [h2, cond_false] at h
      cases h3 : (bitAt hd n == 1) with
      | true => rw [h3] at h; cases h
      | false =>
        rw [h3, cond_false] at h
        have hlt : n < m := by have := of_decide_eq_false h2; omega
        have hb1 : bitAt hd n ≠ 1 := by intro e; rw [e] at h3; cases h3
        refine ⟨by simpa using h1, hlt, hb1, ?_⟩
        cases h4 : (p == 1) with
        | true => rw [h4] at h; exact .inl ⟨eq_of_beq h4, eq_of_beq h⟩
        | false =>
          rw [h4, cond_false] at h
          cases h5 : (p == 2) with
          | false => rw [h5] at h; cases h
          | true =>
            rw [h5, cond_true] at h
            cases h6 : (k == 4) with
            | false => rw [h6] at h; cases h
            | true =>
              rw [h6, cond_true, cond_true] at h
              have h := of_decide_eq_true h
              exact .inr ⟨eq_of_beq h5, eq_of_beq h6, h.1, h.2⟩
theorem wait_b (h1 : bd = no) (h2 : n < m) (h3 : bitAt hd n ≠ 1) (h4 : fitB a p no k x y) : x_wait a p hd m no k bd n x y = true := by
  have e1 : (bd != no) = false := by rw [h1]; simp
  have e2 : decide (n ≥ (m : Int)) = false := decide_eq_false (by omega)
  have e3 : (bitAt hd n == 1) = false := by simpa using h3
  unfold x_wait
  rw [e1, cond_false, e2, cond_false, e3, cond_false]
  rcases h4 with ⟨rfl, rfl⟩ | ⟨rfl, rfl, rfl, rfl⟩
  · rfl
  · exact decide_eq_true ⟨rfl, rfl⟩
theorem restB_ok (hw : (Lit.int .u64 hd).wf = true) (hbm : m ≤ 140737488355328) (h0 : x_bchk a p o v t w s hd m g need no = 0) (h1 : x_cvote k bd n x y z = 0) {R : BR} (hR : R = bV m g need no a p o v t w s hd k bd n x y z) : (restB R m g need no a p o v t w s hd k bd n x y z).sat fun _ _ => True := by
  obtain ⟨a1, a9⟩ := cbid_iff (bchk_q (by rw [h0]; rfl)).2
  have hn0 : 0 ≤ n := cvote_n (k := k) (b := bd) (t := x) (w := y) (s := z) (by rw [h1]; rfl)
  have hq := qE_m a1
  rw [ws_len] at hq
  have hm : m ≤ 12 := hq.1
  obtain ⟨hdn, rfl, hlt⟩ := wf_nat hw
  obtain ⟨nn, rfl⟩ : ∃ nn : Nat, n = nn := ⟨n.toNat, by omega⟩
  have sm : ¬ x_wait a p hdn m no k bd nn x y = true → (sameB R a p o v t w s hdn).sat fun _ _ => True := fun hn => by
    have hn : x_wait a p hdn m no k bd nn x y = false := by simpa using hn
    have er : R = ⟨a, p, o, v, t, w, s, hdn, 0, nil8, 0⟩ := by rw [hR]; unfold bV; rw [h0, h1, hn]; rfl
    exact leafB_ok er (noB_ok (by rw [er]))
  have tail : x_wait a p hdn m no k bd nn x y = true → nn < m → hdn.testBit nn = false → (tailB R m g need no a p o v hdn nn (bst p t w s x y z).1.1 (bst p t w s x y z).1.2 (bst p t w s x y z).2).sat fun _ _ => True := fun hwt hnm hbit => by
    have hsmall : hdn < 2 ^ m := by
      rw [shr_nat _ _ (by omega)] at a9
      exact (Nat.div_eq_zero_iff_lt (Nat.two_pow_pos m)).1 (by omega)
    have h12 : hdn < 4096 := Nat.lt_of_lt_of_le hsmall (by have := Nat.pow_le_pow_right (show 0 < 2 by decide) hm; exact this)
    have eH : sumB hdn nn = heardN hdn nn := sum_heard h12 (by omega) hbit
    have eHn : heardN hdn nn = ((hdn ||| 2 ^ nn : Nat) : Int) := heard_nat hlt (by omega)
    have hHz : shrV .u64 (heardN hdn nn) m = 0 := heard_shr hlt hm hnm a9
    have eE : decide (smI (wsOf m g) (sumB hdn nn) m < need) = !x0_enough m g need (heardN hdn nn) := by
      rw [eH, eHn]
      rw [eHn] at hHz
      exact enough_eq (Nat.or_lt_two_pow (n := 64) hlt (Nat.pow_lt_pow_right (a := 2) (n := 64) (by decide) (by omega))) a1 hHz
    have hm1 : 1 ≤ (m : Int) ∧ (m : Int) ≤ 12 := by omega
    unfold tailB
    rw [eE, eH]
    refine sat_ask ⟨Nat.le_refl _, hbm⟩ (sat_ask ⟨hm, hq.2.2.1⟩ ?_)
    refine sat_tst (fun h3 => ?_) fun h3 => sat_tst (fun h4 => ?_) fun h4 => ?_
    · have er : R = ⟨a, p, o, v, (bst p t w s x y z).1.1, (bst p t w s x y z).1.2, (bst p t w s x y z).2, heardN hdn nn, 0, nil8, 0⟩ := by rw [hR]; unfold bV; rw [h0, h1, hwt, h3]; rfl
      exact leafB_ok er (noB_ok (by rw [er]))
    · have er : R = ⟨a, 3, o, v, (bst p t w s x y z).1.1, (bst p t w s x y z).1.2, (bst p t w s x y z).2, heardN hdn nn, 0, nil8, 0⟩ := by rw [hR]; unfold bV; rw [h0, h1, hwt, h3, h4]; rfl
      exact leafB_ok er (noB_ok (by rw [er]))
    · have er : R = ⟨a, 2, o, x_choice o (bst p t w s x y z).1.1 (bst p t w s x y z).1.2 (bst p t w s x y z).2, (bst p t w s x y z).1.1, (bst p t w s x y z).1.2, (bst p t w s x y z).2, 0, m, toC 3 a no (x_choice o (bst p t w s x y z).1.1 (bst p t w s x y z).1.2 (bst p t w s x y z).2), 0⟩ := by rw [hR]; unfold bV; rw [h0, h1, hwt, h3, h4]; rfl
      have ch : ∀ b : Bool, (bif true then decide ((bst p t w s x y z).1.1 = 0 ∧ (bst p t w s x y z).1.2 = 0) else !decide ((bst p t w s x y z).1.1 = 0 ∧ (bst p t w s x y z).1.2 = 0)) = b → x_choice o (bst p t w s x y z).1.1 (bst p t w s x y z).1.2 (bst p t w s x y z).2 = bif b then o else (bst p t w s x y z).2 := fun b hb => by unfold x_choice; rw [hb]
      refine sat_tst (fun h5 => ?_) fun h5 => ?_
      · have h5 : (!decide ((bst p t w s x y z).1.1 = 0 ∧ (bst p t w s x y z).1.2 = 0)) = true := h5
        have e := ch false (by rw [Bool.not_eq_true'] at h5; exact h5)
        rw [e] at er
        exact sat_ask hm1 (leafB_ok er (manyB_ok (by rw [er]) (by rw [er]; rfl)))
      · have h5 : (!decide ((bst p t w s x y z).1.1 = 0 ∧ (bst p t w s x y z).1.2 = 0)) = false := h5
        have e := ch true (by rw [Bool.not_eq_false'] at h5; exact h5)
        rw [e] at er
        exact sat_ask hm1 (leafB_ok er (manyB_ok (by rw [er]) (by rw [er]; rfl)))
  have heard : bd = no → fitB a p no k x y → (heardB R m g need no a p o v t w s hdn nn x y z).sat fun _ _ => True := fun c1 hf => by
    refine sat_tst (fun c => sm fun hwt => ?_) fun c2 => sat_ask hn0 (sat_tst (fun c => sm fun hwt => ?_) fun c3 => sat_ask hn0 ?_)
    · have := (wait_f hwt).2.1
      have c := of_decide_eq_true c
      omega
    · have hnm := (wait_f hwt).2.1
      have hb := (wait_f hwt).2.2.1
      have hnm : nn < m := by omega
      rw [bit_nat hlt (by omega)] at hb
      rw [inset_nat (by omega), Nat.testBit_eq_decide_div_mod_eq] at c
      have c := of_decide_eq_true c
      omega
    · have c2 := of_decide_eq_false c2
      have hnm : nn < m := by omega
      rw [inset_nat (by omega)] at c3
      have hb : bitAt hdn nn ≠ 1 := by
        rw [bit_nat hlt (by omega)]
        rw [Nat.testBit_eq_decide_div_mod_eq] at c3
        have c3 := of_decide_eq_false c3
        omega
      have tl := tail (wait_b c1 (by omega) hb hf) hnm c3
      refine sat_tst (fun hp => sat_ask ⟨Nat.le_refl _, by decide⟩ (sat_ask (by decide) ?_)) fun hp => ?_
      · have hp : p = 1 := eq_of_beq hp
        subst hp
        exact tl
      · have e : bst p t w s x y z = ((t, w), s) := by unfold bst; rw [hp]; rfl
        rw [e] at tl
        exact tl
  have off : ¬ fitB a p no k x y → (offB R no a p o v t w s hdn bd).sat fun _ _ => True := fun hf => sat_tst (fun _ => sm fun hwt => hf (wait_f hwt).2.2.2) fun _ => sm fun hwt => hf (wait_f hwt).2.2.2
  have four : ¬ (p = 1 ∧ k = 2) → (fourB R m g need no a p o v t w s hdn k bd nn x y z).sat fun _ _ => True := fun hn => by
    refine sat_tst (fun hp => sat_tst (fun hk => ?_) fun hk => off fun hf => ?_) fun hp => off fun hf => ?_
    · refine sat_tst (fun c => sm fun hwt => ?_) fun c => sat_tst (fun c2 => sm fun hwt => ?_) fun c2 => ?_
      · rw [(wait_f hwt).1] at c; simp at c
      · have c2 : (!decide (x = a ∧ y = no)) = true := c2
        rcases (wait_f hwt).2.2.2 with h | h
        · exact hn h
        · rw [decide_eq_true h.2.2] at c2; cases c2
      · have c2 : (!decide (x = a ∧ y = no)) = false := c2
        have c2 : x = a ∧ y = no := by simpa using c2
        exact heard (by simpa using c) (.inr ⟨eq_of_beq hp, eq_of_beq hk, c2.1, c2.2⟩)
    · rcases hf with h | h
      · exact hn h
      · rw [h.2.1] at hk; cases hk
    · rcases hf with h | h
      · exact hn h
      · rw [h.1] at hp; cases hp
  refine sat_tst (fun hp => sat_tst (fun hk => ?_) fun hk => four fun h => ?_) fun hp => four fun h => ?_
  · refine sat_tst (fun c => sm fun hwt => ?_) fun c => heard (by simpa using c) (.inl ⟨eq_of_beq hp, eq_of_beq hk⟩)
    rw [(wait_f hwt).1] at c; simp at c
  · rw [h.2] at hk; cases hk
  · rw [h.1] at hp; cases hp
end
end Go.Proofs.Ytbmbnbhedalcnab
