/- What becomes of a bid by a vote: the reference's is the program's. -/
import Derived.Test.YtbmbnbhedalcnabPk
namespace Go.Proofs.Ytbmbnbhedalcnab
open Go.RowKit
abbrev bitAt (hd n : Int) : Int := IntKind.wrap .u64 (BitVec.toNat (BitVec.ofInt (IntKind.bits .u64) (shrV .u64 hd n) &&& BitVec.ofInt (IntKind.bits .u64) 1))
theorem heard_nat {h n : Nat} (hh : h < 18446744073709551616) (hn : n < 64) : heardN h n = ((h ||| 2 ^ n : Nat) : Int) := by
  have hlt : 2 ^ n < 18446744073709551616 := Nat.pow_lt_pow_right (a := 2) (n := 64) (by decide) hn
  show orI (h : Int) (shlV .u64 1 n) = _
  rw [shl_nat hn, orI_nat hh hlt]
theorem heard_shr {h n m : Nat} (hh : h < 18446744073709551616) (hm : m ≤ 12) (hn : n < m) (hz : shrV .u64 (h : Int) m = 0) : shrV .u64 (heardN h n) m = 0 := by
  rw [heard_nat hh (by omega), shr_nat _ _ (by omega)]
  rw [shr_nat _ _ (by omega)] at hz
  have hp : 0 < 2 ^ m := Nat.two_pow_pos m
  have h1 : h < 2 ^ m := by
    have : h / 2 ^ m = 0 := by omega
    exact (Nat.div_eq_zero_iff_lt hp).1 this
  have h2 : 2 ^ n < 2 ^ m := Nat.pow_lt_pow_right (by decide) hn
  have : (h ||| 2 ^ n) < 2 ^ m := Nat.or_lt_two_pow h1 h2
  rw [Nat.div_eq_of_lt this]
  rfl
/-- a bit that is not there yet is added as it is or-ed -/
theorem add_or {a n : Nat} (h : a.testBit n = false) : a + 2 ^ n = a ||| 2 ^ n := by
  apply Nat.eq_of_testBit_eq
  intro i
  rw [Nat.testBit_or, Nat.testBit_two_pow, Nat.add_comm]
  rcases Nat.lt_trichotomy i n with hi | hi | hi
  · rw [Nat.testBit_two_pow_add_gt hi, show decide (n = i) = false from decide_eq_false (by omega), Bool.or_false]
  · subst hi
    rw [Nat.testBit_two_pow_add_eq, h, show decide (i = i) = true from decide_eq_true rfl]
    rfl
  · rw [show decide (n = i) = false from decide_eq_false (by omega), Bool.or_false]
    rw [Nat.testBit_eq_decide_div_mod_eq] at h
    have h := of_decide_eq_false h
    obtain ⟨e, rfl⟩ : ∃ e, i = n + 1 + e := ⟨i - (n + 1), by omega⟩
    have key : (2 ^ n + a) / 2 ^ (n + 1) = a / 2 ^ (n + 1) := by
      have hp : 0 < 2 ^ n := Nat.two_pow_pos n
      have e2 : 2 ^ (n + 1) = 2 ^ n * 2 := Nat.pow_succ ..
      rw [e2, ← Nat.div_div_eq_div_mul, ← Nat.div_div_eq_div_mul, Nat.add_comm, Nat.add_div_right _ hp]
      omega
    rw [Nat.testBit_eq_decide_div_mod_eq, Nat.testBit_eq_decide_div_mod_eq, Nat.pow_add, ← Nat.div_div_eq_div_mul, ← Nat.div_div_eq_div_mul, key]
theorem bit_nat {h n : Nat} (hh : h < 18446744073709551616) (hn : n < 64) : bitAt h n = ((h / 2 ^ n % 2 : Nat) : Int) := by
  show andI (shrV .u64 (h : Int) n) ((1 : Nat) : Int) = _
  rw [shr_nat _ _ (by omega), andI_nat (Nat.lt_of_le_of_lt (Nat.div_le_self _ _) hh) (by decide), Nat.and_one_is_mod]
theorem inset_nat {h n : Nat} (hn : n < 64) : x_inset h n = h.testBit n := by
  unfold x_inset
  rw [shr_nat _ _ (by omega), Nat.testBit_eq_decide_div_mod_eq]
  rw [show Int.tmod ((h / 2 ^ n : Nat) : Int) 2 = ((h / 2 ^ n % 2 : Nat) : Int) from rfl]
  rw [Bool.eq_iff_iff]
  simp only [beq_iff_eq, decide_eq_true_eq]
  omega
theorem sum_heard {h n : Nat} (hh : h < 4096) (hn : n < 12) (hb : h.testBit n = false) : IntKind.wrap .u64 ((h : Int) + shlV .u64 1 n) = heardN h n := by
  have hlt : 2 ^ n < 2 ^ 12 := Nat.pow_lt_pow_right (by decide) hn
  rw [heard_nat (by omega) (by omega), ← add_or hb, shl_nat (by omega)]
  exact addU_nat (by omega)
theorem smI_eq {L : List Int} {h : Nat} (hh : h < 18446744073709551616) : ∀ {k : Nat}, k ≤ 12 → smI L h k = smK L h k
  | 0, _ => rfl
  | k + 1, hk => by
    unfold smI smK
    rw [smI_eq hh (k := k) (by omega), inset_nat (by omega)]
    have e : btR (h : Int) (k : Int) = ((h / 2 ^ k % 2 : Nat) : Int) := bit_nat hh (by omega)
    rw [e, Nat.testBit_eq_decide_div_mod_eq]
    by_cases c : h / 2 ^ k % 2 = 1
    · rw [if_pos (by omega), decide_eq_true c]; rfl
    · rw [if_neg (by omega), decide_eq_false c]; rfl
theorem leafB_ok {R : BR} {a p : Int} {o v : ByteArray} {t w : Int} {s : ByteArray} {hd e : Int} {n8 : Nat} {g8 : Nat → List Value} {rows : Out → Out} (h : R = ⟨a, p, o, v, t, w, s, hd, n8, g8, e⟩) (hr : ∀ o, o.sat (fun _ _ => True) → (rows o).sat (fun _ _ => True)) : (leafB R a p o v t w s hd rows e).sat fun _ _ => True := by
  subst h
  exact sat_ask rfl (sat_ask rfl (sat_ask rfl (sat_ask rfl (sat_ask rfl (sat_ask rfl (sat_ask rfl (sat_ask rfl (hr _ (sat_ask rfl trivial)))))))))
theorem noB_ok {R : BR} (h : R.n8 = 0) : ∀ o, o.sat (fun _ _ => True) → (noB R o).sat (fun _ _ => True) := fun _ ho => sat_ask h ho
theorem manyB_ok {R : BR} {m : Nat} {G : Nat → List Value} (h1 : R.n8 = m) (h2 : R.g8 = G) : ∀ o, o.sat (fun _ _ => True) → (manyB R m G o).sat (fun _ _ => True) := fun _ ho => sat_ask ⟨h1.symm, Nat.le_refl _, fun j _ => by rw [h2]⟩ ho
section
variable {m : Nat} {g : Nat → List Value} {need no a p : Int} {o v : ByteArray} {t w : Int} {s : ByteArray} {hd k bd n x y : Int} {z : ByteArray}
theorem enough_eq {h : Nat} (hh : h < 18446744073709551616) (hq : qE (wsOf m g) need = 0) (hz : shrV .u64 (h : Int) m = 0) : decide (smI (wsOf m g) h m < need) = !x0_enough m g need h := by
  have hq' := qE_m hq
  rw [ws_len] at hq'
  unfold x0_enough
  have eta : (wsOf m fun j => g j) = wsOf m g := rfl
  have eta' : (wsOf m fun j => g (j + 0)) = wsOf m g := rfl
  rw [eta, eta', hq]
  have hwE : wE (wsOf m g) = 0 := by
    unfold qE at hq
    by_cases e : wE (wsOf m g) ≠ 0
    · rw [if_pos e] at hq; exact absurd hq e
    · omega
  have hsE : sE (wsOf m g) h = 0 := by
    unfold sE
    rw [hwE, if_neg (by decide), ws_len, hz, if_neg (by decide)]
  have hsV : sV (wsOf m g) h = smI (wsOf m g) h m := by
    unfold sV
    rw [if_pos hsE, ws_len, smI_eq hh hq'.1]
  rw [hsV]
  show decide _ = !decide _
  by_cases c : smI (wsOf m g) h m < need
  · rw [decide_eq_true c, decide_eq_false (by omega)]; rfl
  · rw [decide_eq_false c, decide_eq_true (by omega)]; rfl
theorem cbid_iff : x_cbid m g need a p o v t w s hd = 0 → qE (wsOf m g) need = 0 ∧ shrV .u64 hd m = 0 := fun h => by
  unfold x_cbid at h
  have eta : (wsOf m fun j => g j) = wsOf m g := rfl
  rw [eta, cz2, cz1 (by decide), cz1 (by decide), cz1 (by decide), cz1 (by decide), cz1 (by decide), cz1 (by decide), cz2, cz1 (by decide)] at h
  exact ⟨h.1, by simpa using h.2.2.2.2.2.2.2.2.1⟩
end
end Go.Proofs.Ytbmbnbhedalcnab
