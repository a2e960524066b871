/- What becomes of a bid by a vote: the reference is the program. -/
import Derived.Test.YtbmbnbhedalcnabQj
namespace Go.Proofs.Ytbmbnbhedalcnab
open Go.RowKit
abbrev zS : ByteArray := { data := { toList := [] } }
abbrev nil8 : Nat → List Value := fun _ => []
def bR (m : Nat) (g : Nat → List Value) (need no a p : Int) (o v : ByteArray) (t w : Int) (s : ByteArray) (hd k bd n x y : Int) (z : ByteArray) : BR :=
  ⟨x0_hear m g need no a p o v t w s hd k bd n x y z, x1_hear m g need no a p o v t w s hd k bd n x y z, x2_hear m g need no a p o v t w s hd k bd n x y z, x3_hear m g need no a p o v t w s hd k bd n x y z, x4_hear m g need no a p o v t w s hd k bd n x y z, x5_hear m g need no a p o v t w s hd k bd n x y z, x6_hear m g need no a p o v t w s hd k bd n x y z, x7_hear m g need no a p o v t w s hd k bd n x y z, n8_hear m g need no a p o v t w s hd k bd n x y z, g8_hear m g need no a p o v t w s hd k bd n x y z, x9_hear m g need no a p o v t w s hd k bd n x y z⟩
/-- the best of a bid and a vote -/
def bst (p t w : Int) (s : ByteArray) (x y : Int) (z : ByteArray) : Cp := bif p == 1 then mgV [((t, w), s), ((x, y), z)] else ((t, w), s)
def bV (m : Nat) (g : Nat → List Value) (need no a p : Int) (o v : ByteArray) (t w : Int) (s : ByteArray) (hd k bd n x y : Int) (z : ByteArray) : BR :=
  bif x_bchk a p o v t w s hd m g need no != 0 then ⟨0, 0, zS, zS, 0, 0, zS, 0, 0, nil8, x_bchk a p o v t w s hd m g need no⟩ else
  bif x_cvote k bd n x y z != 0 then ⟨0, 0, zS, zS, 0, 0, zS, 0, 0, nil8, x_cvote k bd n x y z⟩ else
  bif !x_wait a p hd m no k bd n x y then ⟨a, p, o, v, t, w, s, hd, 0, nil8, 0⟩ else
  bif !x0_enough m g need (heardN hd n) then ⟨a, p, o, v, (bst p t w s x y z).1.1, (bst p t w s x y z).1.2, (bst p t w s x y z).2, heardN hd n, 0, nil8, 0⟩ else
  bif p == 2 then ⟨a, 3, o, v, (bst p t w s x y z).1.1, (bst p t w s x y z).1.2, (bst p t w s x y z).2, heardN hd n, 0, nil8, 0⟩ else
  ⟨a, 2, o, x_choice o (bst p t w s x y z).1.1 (bst p t w s x y z).1.2 (bst p t w s x y z).2, (bst p t w s x y z).1.1, (bst p t w s x y z).1.2, (bst p t w s x y z).2, 0, m, toC 3 a no (x_choice o (bst p t w s x y z).1.1 (bst p t w s x y z).1.2 (bst p t w s x y z).2), 0⟩
theorem bR_eq {m : Nat} {g : Nat → List Value} {need no a p : Int} {o v : ByteArray} {t w : Int} {s : ByteArray} {hd k bd n x y : Int} {z : ByteArray} : bR m g need no a p o v t w s hd k bd n x y z = bV m g need no a p o v t w s hd k bd n x y z := by
  have eta : (fun j => g j) = g := rfl
  unfold bR bV bst
  simp only [x0_hear, x1_hear, x2_hear, x3_hear, x4_hear, x5_hear, x6_hear, x7_hear, n8_hear, g8_hear, x9_hear, eta]
  cases x_bchk a p o v t w s hd m g need no != 0
  · cases x_cvote k bd n x y z != 0
    · cases x_wait a p hd m no k bd n x y
      · rfl
      · cases h3 : (p == 1)
        · cases x0_enough m g need (heardN hd n)
          · rfl
          · cases p == 2 <;> rfl
        · cases x0_enough m g need (heardN hd n)
          · rfl
          · cases p == 2 <;> rfl
    · rfl
  · rfl
end Go.Proofs.Ytbmbnbhedalcnab
namespace Go.Proofs.Ytbmbnbhedalcnab
open Go.RowKit
abbrev bitAt (hd n : Int) : Int := IntKind.wrap .u64 (BitVec.toNat (BitVec.ofInt (IntKind.bits .u64) (shrV .u64 hd n) &&& BitVec.ofInt (IntKind.bits .u64) 1))
theorem heard_nat {h n : Nat} (hh : h < 18446744073709551616) (hn : n < 64) : heardN h n = ((h ||| 2 ^ n : Nat) : Int) := by
  have hlt : 2 ^ n < 18446744073709551616 := Nat.pow_lt_pow_right (a := 2) (n := 64) (by decide) hn
  show orI (h : Int) (shlV .u64 1 n) = _
  rw [shl_nat hn, orI_nat hh hlt]
theorem heard_shr {h n m : Nat} (hh : h < 18446744073709551616) (hm : m ≤ 12) (hn : n < m) (hz : shrV .u64 (h : Int) m = 0) : shrV .u64 (heardN h n) m = 0 := by
  rw [heard_nat hh (by omega), shr_nat _ _ (by omega)]
  rw [shr_nat _ _ (by omega)] at hz
  have hp : 0 < 2 ^ m := Nat.two_pow_pos m
  have h1 : h < 2 ^ m := by
    have : h / 2 ^ m = 0 := by omega
    exact (Nat.div_eq_zero_iff_lt hp).1 this
  have h2 : 2 ^ n < 2 ^ m := Nat.pow_lt_pow_right (by decide) hn
  have : (h ||| 2 ^ n) < 2 ^ m := Nat.or_lt_two_pow h1 h2
  rw [Nat.div_eq_of_lt this]
  rfl
/-- a bit that is not there yet is added as it is or-ed -/
theorem add_or {a n : Nat} (h : a.testBit n = false) : a + 2 ^ n = a ||| 2 ^ n := by
  apply Nat.eq_of_testBit_eq
  intro i
  rw [Nat.testBit_or, Nat.testBit_two_pow, Nat.add_comm]
  rcases Nat.lt_trichotomy i n with hi | hi | hi
  · rw [Nat.testBit_two_pow_add_gt hi, show decide (n = i) = false from decide_eq_false (by omega), Bool.or_false]
  · subst hi
    rw [Nat.testBit_two_pow_add_eq, h, show decide (i = i) = true from decide_eq_true rfl]
    rfl
  · rw [show decide (n = i) = false from decide_eq_false (by omega), Bool.or_false]
    rw [Nat.testBit_eq_decide_div_mod_eq] at h
    have h := of_decide_eq_false h
    obtain ⟨e, rfl⟩ : ∃ e, i = n + 1 + e := ⟨i - (n + 1), by omega⟩
    have key : (2 ^ n + a) / 2 ^ (n + 1) = a / 2 ^ (n + 1) := by
      have hp : 0 < 2 ^ n := Nat.two_pow_pos n
      have e2 : 2 ^ (n + 1) = 2 ^ n * 2 := Nat.pow_succ ..
      rw [e2, ← Nat.div_div_eq_div_mul, ← Nat.div_div_eq_div_mul, Nat.add_comm, Nat.add_div_right _ hp]
      omega
    rw [Nat.testBit_eq_decide_div_mod_eq, Nat.testBit_eq_decide_div_mod_eq, Nat.pow_add, ← Nat.div_div_eq_div_mul, ← Nat.div_div_eq_div_mul, key]
theorem bit_nat {h n : Nat} (hh : h < 18446744073709551616) (hn : n < 64) : bitAt h n = ((h / 2 ^ n % 2 : Nat) : Int) := by
  show andI (shrV .u64 (h : Int) n) ((1 : Nat) : Int) = _
  rw [shr_nat _ _ (by omega), andI_nat (Nat.lt_of_le_of_lt (Nat.div_le_self _ _) hh) (by decide), Nat.and_one_is_mod]
theorem inset_nat {h n : Nat} (hn : n < 64) : x_inset h n = h.testBit n := by
  unfold x_inset
  rw [shr_nat _ _ (by omega), Nat.testBit_eq_decide_div_mod_eq]
  rw [show Int.tmod ((h / 2 ^ n : Nat) : Int) 2 = ((h / 2 ^ n % 2 : Nat) : Int) from rfl]
  rw [Bool.eq_iff_iff]
  simp only [beq_iff_eq, decide_eq_true_eq]
  omega
theorem sum_heard {h n : Nat} (hh : h < 4096) (hn : n < 12) (hb : h.testBit n = false) : IntKind.wrap .u64 ((h : Int) + shlV .u64 1 n) = heardN h n := by
  have hlt : 2 ^ n < 2 ^ 12 := Nat.pow_lt_pow_right (by decide) hn
  rw [heard_nat (by omega) (by omega), ← add_or hb, shl_nat (by omega)]
  exact addU_nat (by omega)
theorem smI_eq {L : List Int} {h : Nat} (hh : h < 18446744073709551616) : ∀ {k : Nat}, k ≤ 12 → smI L h k = smK L h k
  | 0, _ => rfl
  | k + 1, hk => by
    unfold smI smK
    rw [smI_eq hh (k := k) (by omega), inset_nat (by omega)]
    have e : btR (h : Int) (k : Int) = ((h / 2 ^ k % 2 : Nat) : Int) := bit_nat hh (by omega)
    rw [e, Nat.testBit_eq_decide_div_mod_eq]
    by_cases c : h / 2 ^ k % 2 = 1
    · rw [if_pos (by omega), decide_eq_true c]; rfl
    · rw [if_neg (by omega), decide_eq_false c]; rfl
theorem leafB_ok {R : BR} {a p : Int} {o v : ByteArray} {t w : Int} {s : ByteArray} {hd e : Int} {n8 : Nat} {g8 : Nat → List Value} {rows : Out → Out} (h : R = ⟨a, p, o, v, t, w, s, hd, n8, g8, e⟩) (hr : ∀ o, o.sat (fun _ _ => True) → (rows o).sat (fun _ _ => True)) : (leafB R a p o v t w s hd rows e).sat fun _ _ => True := by
  subst h
  exact sat_ask rfl (sat_ask rfl (sat_ask rfl (sat_ask rfl (sat_ask rfl (sat_ask rfl (sat_ask rfl (sat_ask rfl (hr _ (sat_ask rfl trivial)))))))))
theorem noB_ok {R : BR} (h : R.n8 = 0) : ∀ o, o.sat (fun _ _ => True) → (noB R o).sat (fun _ _ => True) := fun _ ho => sat_ask h ho
theorem manyB_ok {R : BR} {m : Nat} {G : Nat → List Value} (h1 : R.n8 = m) (h2 : R.g8 = G) : ∀ o, o.sat (fun _ _ => True) → (manyB R m G o).sat (fun _ _ => True) := fun _ ho => sat_ask ⟨h1.symm, Nat.le_refl _, fun j _ => by rw [h2]⟩ ho
section
variable {m : Nat} {g : Nat → List Value} {need no a p : Int} {o v : ByteArray} {t w : Int} {s : ByteArray} {hd k bd n x y : Int} {z : ByteArray}
theorem enough_eq {h : Nat} (hh : h < 18446744073709551616) (hq : qE (wsOf m g) need = 0) (hz : shrV .u64 (h : Int) m = 0) : decide (smI (wsOf m g) h m < need) = !x0_enough m g need h := by
  have hq' := qE_m hq
  rw [ws_len] at hq'
  unfold x0_enough
  have eta : (wsOf m fun j => g j) = wsOf m g := rfl
  have eta' : (wsOf m fun j => g (j + 0)) = wsOf m g := rfl
  rw [eta, eta', hq]
  have hwE : wE (wsOf m g) = 0 := by
    unfold qE at hq
    by_cases e : wE (wsOf m g) ≠ 0
    · rw [if_pos e] at hq; exact absurd hq e
    · omega
  have hsE : sE (wsOf m g) h = 0 := by
    unfold sE
    rw [hwE, if_neg (by decide), ws_len, hz, if_neg (by decide)]
  have hsV : sV (wsOf m g) h = smI (wsOf m g) h m := by
    unfold sV
    rw [if_pos hsE, ws_len, smI_eq hh hq'.1]
  rw [hsV]
  show decide _ = !decide _
  by_cases c : smI (wsOf m g) h m < need
  · rw [decide_eq_true c, decide_eq_false (by omega)]; rfl
  · rw [decide_eq_false c, decide_eq_true (by omega)]; rfl
theorem cbid_iff : x_cbid m g need a p o v t w s hd = 0 → qE (wsOf m g) need = 0 ∧ shrV .u64 hd m = 0 := fun h => by
  unfold x_cbid at h
  have eta : (wsOf m fun j => g j) = wsOf m g := rfl
  rw [eta, cz2, cz1 (by decide), cz1 (by decide), cz1 (by decide), cz1 (by decide), cz1 (by decide), cz1 (by decide), cz2, cz1 (by decide)] at h
  exact ⟨h.1, by simpa using h.2.2.2.2.2.2.2.2.1⟩
end
end Go.Proofs.Ytbmbnbhedalcnab
namespace Go.Proofs.Ytbmbnbhedalcnab
open Go.RowKit
section
variable {m : Nat} {g : Nat → List Value} {need no a p : Int} {o v : ByteArray} {t w : Int} {s : ByteArray} {hd k bd n x y : Int} {z : ByteArray}
/-- does the vote fit the phase? -/
def fitB (a p no k x y : Int) : Prop := p = 1 ∧ k = 2 ∨ p = 2 ∧ k = 4 ∧ x = a ∧ y = no
theorem wait_f (h : x_wait a p hd m no k bd n x y = true) : bd = no ∧ n < m ∧ bitAt hd n ≠ 1 ∧ fitB a p no k x y := by
  unfold x_wait at h
  cases h1 : (bd != no) with
  | true => rw [h1] at h; cases h
  | false =>
    rw [h1, cond_false] at h
    cases h2 : decide (n ≥ (m : Int)) with
    | true => rw [h2] at h; cases h
    | false =>
      rw [h2, cond_false] at h
      cases h3 : (bitAt hd n == 1) with
      | true => rw [h3] at h; cases h
      | false =>
        rw [h3, cond_false] at h
        have hlt : n < m := by have := of_decide_eq_false h2; omega
        have hb1 : bitAt hd n ≠ 1 := by intro e; rw [e] at h3; cases h3
        refine ⟨by simpa using h1, hlt, hb1, ?_⟩
        cases h4 : (p == 1) with
        | true => rw [h4] at h; exact .inl ⟨eq_of_beq h4, eq_of_beq h⟩
        | false =>
          rw [h4, cond_false] at h
          cases h5 : (p == 2) with
          | false => rw [h5] at h; cases h
          | true =>
            rw [h5, cond_true] at h
            cases h6 : (k == 4) with
            | false => rw [h6] at h; cases h
            | true =>
              rw [h6, cond_true, cond_true] at h
              have h := of_decide_eq_true h
              exact .inr ⟨eq_of_beq h5, eq_of_beq h6, h.1, h.2⟩
theorem wait_b (h1 : bd = no) (h2 : n < m) (h3 : bitAt hd n ≠ 1) (h4 : fitB a p no k x y) : x_wait a p hd m no k bd n x y = true := by
  have e1 : (bd != no) = false := by rw [h1]; simp
  have e2 : decide (n ≥ (m : Int)) = false := decide_eq_false (by omega)
  have e3 : (bitAt hd n == 1) = false := by simpa using h3
  unfold x_wait
  rw [e1, cond_false, e2, cond_false, e3, cond_false]
  rcases h4 with ⟨rfl, rfl⟩ | ⟨rfl, rfl, rfl, rfl⟩
  · rfl
  · exact decide_eq_true ⟨rfl, rfl⟩
theorem restB_ok (hw : (Lit.int .u64 hd).wf = true) (hbm : m ≤ 140737488355328) (h0 : x_bchk a p o v t w s hd m g need no = 0) (h1 : x_cvote k bd n x y z = 0) {R : BR} (hR : R = bV m g need no a p o v t w s hd k bd n x y z) : (restB R m g need no a p o v t w s hd k bd n x y z).sat fun _ _ => True := by
  obtain ⟨a1, a9⟩ := cbid_iff (bchk_q (by rw [h0]; rfl)).2
  have hn0 : 0 ≤ n := cvote_n (k := k) (b := bd) (t := x) (w := y) (s := z) (by rw [h1]; rfl)
  have hq := qE_m a1
  rw [ws_len] at hq
  have hm : m ≤ 12 := hq.1
  obtain ⟨hdn, rfl, hlt⟩ := wf_nat hw
  obtain ⟨nn, rfl⟩ : ∃ nn : Nat, n = nn := ⟨n.toNat, by omega⟩
  have sm : ¬ x_wait a p hdn m no k bd nn x y = true → (sameB R a p o v t w s hdn).sat fun _ _ => True := fun hn => by
    have hn : x_wait a p hdn m no k bd nn x y = false := by simpa using hn
    have er : R = ⟨a, p, o, v, t, w, s, hdn, 0, nil8, 0⟩ := by rw [hR]; unfold bV; rw [h0, h1, hn]; rfl
    exact leafB_ok er (noB_ok (by rw [er]))
  have tail : x_wait a p hdn m no k bd nn x y = true → nn < m → hdn.testBit nn = false → (tailB R m g need no a p o v hdn nn (bst p t w s x y z).1.1 (bst p t w s x y z).1.2 (bst p t w s x y z).2).sat fun _ _ => True := fun hwt hnm hbit => by
    have hsmall : hdn < 2 ^ m := by
      rw [shr_nat _ _ (by omega)] at a9
      exact (Nat.div_eq_zero_iff_lt (Nat.two_pow_pos m)).1 (by omega)
    have h12 : hdn < 4096 := Nat.lt_of_lt_of_le hsmall (by have := Nat.pow_le_pow_right (show 0 < 2 by decide) hm; exact this)
    have eH : sumB hdn nn = heardN hdn nn := sum_heard h12 (by omega) hbit
    have eHn : heardN hdn nn = ((hdn ||| 2 ^ nn : Nat) : Int) := heard_nat hlt (by omega)
    have hHz : shrV .u64 (heardN hdn nn) m = 0 := heard_shr hlt hm hnm a9
    have eE : decide (smI (wsOf m g) (sumB hdn nn) m < need) = !x0_enough m g need (heardN hdn nn) := by
      rw [eH, eHn]
      rw [eHn] at hHz
      exact enough_eq (Nat.or_lt_two_pow (n := 64) hlt (Nat.pow_lt_pow_right (a := 2) (n := 64) (by decide) (by omega))) a1 hHz
    have hm1 : 1 ≤ (m : Int) ∧ (m : Int) ≤ 12 := by omega
    unfold tailB
    rw [eE, eH]
    refine sat_ask ⟨Nat.le_refl _, hbm⟩ (sat_ask ⟨hm, hq.2.2.1⟩ ?_)
    refine sat_tst (fun h3 => ?_) fun h3 => sat_tst (fun h4 => ?_) fun h4 => ?_
    · have er : R = ⟨a, p, o, v, (bst p t w s x y z).1.1, (bst p t w s x y z).1.2, (bst p t w s x y z).2, heardN hdn nn, 0, nil8, 0⟩ := by rw [hR]; unfold bV; rw [h0, h1, hwt, h3]; rfl
      exact leafB_ok er (noB_ok (by rw [er]))
    · have er : R = ⟨a, 3, o, v, (bst p t w s x y z).1.1, (bst p t w s x y z).1.2, (bst p t w s x y z).2, heardN hdn nn, 0, nil8, 0⟩ := by rw [hR]; unfold bV; rw [h0, h1, hwt, h3, h4]; rfl
      exact leafB_ok er (noB_ok (by rw [er]))
    · have er : R = ⟨a, 2, o, x_choice o (bst p t w s x y z).1.1 (bst p t w s x y z).1.2 (bst p t w s x y z).2, (bst p t w s x y z).1.1, (bst p t w s x y z).1.2, (bst p t w s x y z).2, 0, m, toC 3 a no (x_choice o (bst p t w s x y z).1.1 (bst p t w s x y z).1.2 (bst p t w s x y z).2), 0⟩ := by rw [hR]; unfold bV; rw [h0, h1, hwt, h3, h4]; rfl
      have ch : ∀ b : Bool, (bif true then decide ((bst p t w s x y z).1.1 = 0 ∧ (bst p t w s x y z).1.2 = 0) else !decide ((bst p t w s x y z).1.1 = 0 ∧ (bst p t w s x y z).1.2 = 0)) = b → x_choice o (bst p t w s x y z).1.1 (bst p t w s x y z).1.2 (bst p t w s x y z).2 = bif b then o else (bst p t w s x y z).2 := fun b hb => by unfold x_choice; rw [hb]
      refine sat_tst (fun h5 => ?_) fun h5 => ?_
      · have h5 : (!decide ((bst p t w s x y z).1.1 = 0 ∧ (bst p t w s x y z).1.2 = 0)) = true := h5
        have e := ch false (by rw [Bool.not_eq_true'] at h5; exact h5)
        rw [e] at er
        exact sat_ask hm1 (leafB_ok er (manyB_ok (by rw [er]) (by rw [er]; rfl)))
      · have h5 : (!decide ((bst p t w s x y z).1.1 = 0 ∧ (bst p t w s x y z).1.2 = 0)) = false := h5
        have e := ch true (by rw [Bool.not_eq_false'] at h5; exact h5)
        rw [e] at er
        exact sat_ask hm1 (leafB_ok er (manyB_ok (by rw [er]) (by rw [er]; rfl)))
  have heard : bd = no → fitB a p no k x y → (heardB R m g need no a p o v t w s hdn nn x y z).sat fun _ _ => True := fun c1 hf => by
    refine sat_tst (fun c => sm fun hwt => ?_) fun c2 => sat_ask hn0 (sat_tst (fun c => sm fun hwt => ?_) fun c3 => sat_ask hn0 ?_)
    · have := (wait_f hwt).2.1
      have c := of_decide_eq_true c
      omega
    · have hnm := (wait_f hwt).2.1
      have hb := (wait_f hwt).2.2.1
      have hnm : nn < m := by omega
      rw [bit_nat hlt (by omega)] at hb
      rw [inset_nat (by omega), Nat.testBit_eq_decide_div_mod_eq] at c
      have c := of_decide_eq_true c
      omega
    · have c2 := of_decide_eq_false c2
      have hnm : nn < m := by omega
      rw [inset_nat (by omega)] at c3
      have hb : bitAt hdn nn ≠ 1 := by
        rw [bit_nat hlt (by omega)]
        rw [Nat.testBit_eq_decide_div_mod_eq] at c3
        have c3 := of_decide_eq_false c3
        omega
      have tl := tail (wait_b c1 (by omega) hb hf) hnm c3
      refine sat_tst (fun hp => sat_ask ⟨Nat.le_refl _, by decide⟩ (sat_ask (by decide) ?_)) fun hp => ?_
      · have hp : p = 1 := eq_of_beq hp
        subst hp
        exact tl
      · have e : bst p t w s x y z = ((t, w), s) := by unfold bst; rw [hp]; rfl
        rw [e] at tl
        exact tl
  have off : ¬ fitB a p no k x y → (offB R no a p o v t w s hdn bd).sat fun _ _ => True := fun hf => sat_tst (fun _ => sm fun hwt => hf (wait_f hwt).2.2.2) fun _ => sm fun hwt => hf (wait_f hwt).2.2.2
  have four : ¬ (p = 1 ∧ k = 2) → (fourB R m g need no a p o v t w s hdn k bd nn x y z).sat fun _ _ => True := fun hn => by
    refine sat_tst (fun hp => sat_tst (fun hk => ?_) fun hk => off fun hf => ?_) fun hp => off fun hf => ?_
    · refine sat_tst (fun c => sm fun hwt => ?_) fun c => sat_tst (fun c2 => sm fun hwt => ?_) fun c2 => ?_
      · rw [(wait_f hwt).1] at c; simp at c
      · have c2 : (!decide (x = a ∧ y = no)) = true := c2
        rcases (wait_f hwt).2.2.2 with h | h
        · exact hn h
        · rw [decide_eq_true h.2.2] at c2; cases c2
      · have c2 : (!decide (x = a ∧ y = no)) = false := c2
        have c2 : x = a ∧ y = no := by simpa using c2
        exact heard (by simpa using c) (.inr ⟨eq_of_beq hp, eq_of_beq hk, c2.1, c2.2⟩)
    · rcases hf with h | h
      · exact hn h
      · rw [h.2.1] at hk; cases hk
    · rcases hf with h | h
      · exact hn h
      · rw [h.1] at hp; cases hp
  refine sat_tst (fun hp => sat_tst (fun hk => ?_) fun hk => four fun h => ?_) fun hp => four fun h => ?_
  · refine sat_tst (fun c => sm fun hwt => ?_) fun c => heard (by simpa using c) (.inl ⟨eq_of_beq hp, eq_of_beq hk⟩)
    rw [(wait_f hwt).1] at c; simp at c
  · rw [h.2] at hk; cases hk
  · rw [h.1] at hp; cases hp
end
end Go.Proofs.Ytbmbnbhedalcnab
namespace Go.Proofs.Ytbmbnbhedalcnab
open Go.RowKit
def aHr : List CA → Prop
  | [_, _, _, .val (.agg ⟨[_, _, _, _, _, _, _, .int _ hd]⟩), _] => (Lit.int .u64 hd).wf = true
  | _ => False
theorem num_out {no : Int} : x_num no = false ↔ (no < 0 ∨ no > 30) := by
  unfold x_num
  by_cases h1 : no < 0
  · have : ¬ 0 ≤ no := by omega
    simp [h1, this]
  · have h2 : 0 ≤ no := by omega
    by_cases h3 : no > 30
    · have : ¬ no < 31 := by omega
      simp [h2, h3, this]
    · have : no < 31 := by omega
      simp [h1, h2, h3, this]
theorem bchk_out {a p : Int} {o v : ByteArray} {t w : Int} {s : ByteArray} {hd : Int} {m : Nat} {g : Nat → List Value} {need no : Int} (h : no < 0 ∨ no > 30) : x_bchk a p o v t w s hd m g need no = 3 := by
  unfold x_bchk
  rw [num_out.2 h]
  rfl
theorem bchk_in {a p : Int} {o v : ByteArray} {t w : Int} {s : ByteArray} {hd : Int} {m : Nat} {g : Nat → List Value} {need no : Int} (h : ¬ (no < 0 ∨ no > 30)) : x_bchk a p o v t w s hd m g need no = x_cbid m g need a p o v t w s hd := by
  have e : x_num no = true := by
    cases e : x_num no with
    | true => rfl
    | false => exact absurd (num_out.1 e) h
  unfold x_bchk
  rw [e]
  rfl
theorem f_rbhear : FOk K34.P 16 (listF [.agg [.rows wtK, .val], .one .val, .one .val, .one .val] [.agg [.val, .val, .val, .val, .val, .val, .val, .val], .one .val, .one .val] aHr g_hear) := list_f K34_ok Try.func16 rfl rfl (no_loops rfl) fun cas rs hb hk ha h => by
  unfold g_hear at h
  split at h
  · rename_i sh0 m g need no a p o v t w s hd k bd n x y z
    have e0 := kind_rows (i := 0) hk rfl rfl
    have hbm := bnd_rows (i := 0) hb rfl
    subst e0
    have hw : (Lit.int .u64 hd).wf = true := ha
    cases h
    show (evR K34 noL _ [.agg ⟨[.slice (some ⟨0, 0, some 0⟩) m m, .int .i64 need]⟩, .int .i64 no, .agg ⟨[.int .i64 a, .int .i64 p, .string o, .string v, .int .i64 t, .int .i64 w, .string s, .int .u64 hd]⟩, .agg ⟨[.int .i64 k, .int .i64 bd, .int .i64 n, .int .i64 x, .int .i64 y, .string z]⟩] [.recs wtK m g] [.agg [.val, .val, .val, .val, .val, .val, .val, .val], .one .val, .one .val] [.val (.int .i64 (bR m g need no a p o v t w s hd k bd n x y z).a), .val (.int .i64 (bR m g need no a p o v t w s hd k bd n x y z).p), .val (.string (bR m g need no a p o v t w s hd k bd n x y z).o), .val (.string (bR m g need no a p o v t w s hd k bd n x y z).v), .val (.int .i64 (bR m g need no a p o v t w s hd k bd n x y z).t), .val (.int .i64 (bR m g need no a p o v t w s hd k bd n x y z).w), .val (.string (bR m g need no a p o v t w s hd k bd n x y z).s), .val (.int .u64 (bR m g need no a p o v t w s hd k bd n x y z).hd), .rows 29 vtK (bR m g need no a p o v t w s hd k bd n x y z).n8 (bR m g need no a p o v t w s hd k bd n x y z).g8, .val (.int .i64 (bR m g need no a p o v t w s hd k bd n x y z).e)]).sat _
    rw [run_rbhear, rcbid_eq hw, rcv_eq]
    have err : ∀ e : Int, (x_bchk a p o v t w s hd m g need no != 0) = true → x_bchk a p o v t w s hd m g need no = e → (errB (bR m g need no a p o v t w s hd k bd n x y z) e).sat fun _ _ => True := fun e h1 h2 => by
      have er : bR m g need no a p o v t w s hd k bd n x y z = ⟨0, 0, zS, zS, 0, 0, zS, 0, 0, nil8, e⟩ := by rw [bR_eq]; unfold bV; rw [h1, h2]; rfl
      exact leafB_ok er (noB_ok (by rw [er]))
    refine sat_tst (fun c1 => ?_) fun c1 => sat_tst (fun c2 => ?_) fun c2 => ?_
    · have e := bchk_out (a := a) (p := p) (o := o) (v := v) (t := t) (w := w) (s := s) (hd := hd) (m := m) (g := g) (need := need) (.inl (of_decide_eq_true c1))
      exact err 3 (by rw [e]; rfl) e
    · have e := bchk_out (a := a) (p := p) (o := o) (v := v) (t := t) (w := w) (s := s) (hd := hd) (m := m) (g := g) (need := need) (.inr (of_decide_eq_true c2))
      exact err 3 (by rw [e]; rfl) e
    · have hno : ¬ (no < 0 ∨ no > 30) := fun h => by
        rcases h with h | h
        · exact of_decide_eq_false c1 h
        · exact of_decide_eq_false c2 h
      have eb := bchk_in (a := a) (p := p) (o := o) (v := v) (t := t) (w := w) (s := s) (hd := hd) (m := m) (g := g) (need := need) hno
      rw [← eb]
      refine sat_ask ⟨Nat.le_refl _, hbm⟩ (sat_tst (fun h0 => sat_tst (fun h1 => ?_) fun h1 => restB_ok hw hbm (eq_of_beq h0) (eq_of_bne h1) bR_eq) fun h0 => sat_tst (fun h1 => err _ h1 rfl) fun h1 => ?_)
      · have er : bR m g need no a p o v t w s hd k bd n x y z = ⟨0, 0, zS, zS, 0, 0, zS, 0, 0, nil8, x_cvote k bd n x y z⟩ := by
          rw [bR_eq]; unfold bV; rw [show (x_bchk a p o v t w s hd m g need no != 0) = false from by rw [eq_of_beq h0]; rfl, h1]; rfl
        exact leafB_ok er (noB_ok (by rw [er]))
      · have := eq_of_bne h1
        rw [this] at h0
        cases h0
  · cases h
noncomputable def K35 : Kn := K34.addF 16 (listF [.agg [.rows wtK, .val], .one .val, .one .val, .one .val] [.agg [.val, .val, .val, .val, .val, .val, .val, .val], .one .val, .one .val] aHr g_hear)
theorem K35_ok : K35.Ok := K34_ok.addF f_rbhear
theorem K35_P : K35.P = Try.prog := rfl
end Go.Proofs.Ytbmbnbhedalcnab
