/- What becomes of an operation by a message: the reference is the program. -/
import Derived.Test.YtbmbnbhedalcnaaOj
namespace Go.Proofs.Ytbmbnbhedalcnaa
open Go.RowKit
/-- a bit that is not there yet is added as it is or-ed -/
theorem add_or {a n : Nat} (h : a.testBit n = false) : a + 2 ^ n = a ||| 2 ^ n := by
  apply Nat.eq_of_testBit_eq
  intro i
  rw [Nat.testBit_or, Nat.testBit_two_pow, Nat.add_comm]
  rcases Nat.lt_trichotomy i n with hi | hi | hi
  · rw [Nat.testBit_two_pow_add_gt hi, show decide (n = i) = false from decide_eq_false (by omega), Bool.or_false]
  · subst hi
    rw [Nat.testBit_two_pow_add_eq, h, show decide (i = i) = true from decide_eq_true rfl]
    rfl
  · rw [show decide (n = i) = false from decide_eq_false (by omega), Bool.or_false]
    rw [Nat.testBit_eq_decide_div_mod_eq] at h
    have h := of_decide_eq_false h
    obtain ⟨e, rfl⟩ : ∃ e, i = n + 1 + e := ⟨i - (n + 1), by omega⟩
    have key : (2 ^ n + a) / 2 ^ (n + 1) = a / 2 ^ (n + 1) := by
      have hp : 0 < 2 ^ n := Nat.two_pow_pos n
      have e2 : 2 ^ (n + 1) = 2 ^ n * 2 := Nat.pow_succ ..
      rw [e2, ← Nat.div_div_eq_div_mul, ← Nat.div_div_eq_div_mul, Nat.add_comm, Nat.add_div_right _ hp]
      omega
    rw [Nat.testBit_eq_decide_div_mod_eq, Nat.testBit_eq_decide_div_mod_eq, Nat.pow_add, ← Nat.div_div_eq_div_mul, ← Nat.div_div_eq_div_mul, key]
theorem bit_nat {h n : Nat} (hh : h < 18446744073709551616) (hn : n < 64) : bitAt h n = ((h / 2 ^ n % 2 : Nat) : Int) := by
  show andI (shrV .u64 (h : Int) n) ((1 : Nat) : Int) = _
  rw [shr_nat _ _ (by omega), andI_nat (Nat.lt_of_le_of_lt (Nat.div_le_self _ _) hh) (by decide), Nat.and_one_is_mod]
theorem inset_nat {h n : Nat} (hn : n < 64) : x_inset h n = h.testBit n := by
  unfold x_inset
  rw [shr_nat _ _ (by omega), Nat.testBit_eq_decide_div_mod_eq]
  rw [show Int.tmod ((h / 2 ^ n : Nat) : Int) 2 = ((h / 2 ^ n % 2 : Nat) : Int) from rfl]
  rw [Bool.eq_iff_iff]
  simp only [beq_iff_eq, decide_eq_true_eq]
  omega
theorem sum_heard {h n : Nat} (hh : h < 4096) (hn : n < 12) (hb : h.testBit n = false) : IntKind.wrap .u64 ((h : Int) + shlV .u64 1 n) = heardN h n := by
  have hlt : 2 ^ n < 2 ^ 12 := Nat.pow_lt_pow_right (by decide) hn
  rw [heard_nat (by omega) (by omega), ← add_or hb, shl_nat (by omega)]
  exact addU_nat (by omega)
theorem smI_eq {L : List Int} {h : Nat} (hh : h < 18446744073709551616) : ∀ {k : Nat}, k ≤ 12 → smI L h k = smK L h k
  | 0, _ => rfl
  | k + 1, hk => by
    unfold smI smK
    rw [smI_eq hh (k := k) (by omega), inset_nat (by omega)]
    have e : btR (h : Int) (k : Int) = ((h / 2 ^ k % 2 : Nat) : Int) := bit_nat hh (by omega)
    rw [e, Nat.testBit_eq_decide_div_mod_eq]
    by_cases c : h / 2 ^ k % 2 = 1
    · rw [if_pos (by omega), decide_eq_true c]; rfl
    · rw [if_neg (by omega), decide_eq_false c]; rfl
end Go.Proofs.Ytbmbnbhedalcnaa
namespace Go.Proofs.Ytbmbnbhedalcnaa
open Go.RowKit
theorem sck_up {p : St} (h : sck p = 0) : slt p (0, 0) = false := by
  refine (slt_niff _ _).2 ?_
  unfold sck at h
  by_cases hh : p.1 < 0 ∨ 1000000 < p.1 ∨ p.2 < 0 ∨ 31 < p.2
  · rw [if_pos hh] at h; cases h
  · show ¬ (p.1 < 0 ∨ p.1 = 0 ∧ p.2 < 0)
    omega
theorem sxV_ok {p : St} (h : sck p = 0) : sxV p = p := by
  unfold sxV
  rw [h]
  cases hs : slt (0, 0) p with
  | true => rfl
  | false => exact slt_anti hs (sck_up h)
theorem nx_eq {t w op : Int} (h : sck (t, w) = 0) : rx2 t w op = nxE t w op ∧ (nxE t w op = 0 → rx0 t w op = nxT t w op ∧ rx1 t w op = nxW t w op) := by
  have ht : 0 ≤ t ∧ t ≤ 1000000 := by
    unfold sck at h
    by_cases hh : (t, w).1 < 0 ∨ 1000000 < (t, w).1 ∨ (t, w).2 < 0 ∨ 31 < (t, w).2
    · rw [if_pos hh] at h; cases h
    · have hh : ¬ (t < 0 ∨ 1000000 < t ∨ w < 0 ∨ 31 < w) := hh
      omega
  have hw1 : IntKind.wrap .i64 (t + 1) = t + 1 := by rw [IntKind.wrap_i64]; omega
  have e2 : rx2 t w op = (bif sck (t, w) != 0 then sck (t, w) else (bif decide (op < 0) then (3 : Int) else bif decide (op > 31) then (3 : Int) else bif decide ((sxV (t, w)).1 ≥ 1000000) then (3 : Int) else 0)) := rfl
  have e0 : rx0 t w op = (bif sck (t, w) != 0 then 0 else (bif decide (op < 0) then (0 : Int) else bif decide (op > 31) then (0 : Int) else bif decide ((sxV (t, w)).1 ≥ 1000000) then (0 : Int) else IntKind.wrap .i64 ((sxV (t, w)).1 + 1))) := rfl
  have e1 : rx1 t w op = (bif sck (t, w) != 0 then 0 else (bif decide (op < 0) then (0 : Int) else bif decide (op > 31) then (0 : Int) else bif decide ((sxV (t, w)).1 ≥ 1000000) then (0 : Int) else op)) := rfl
  rw [h, sxV_ok h] at e2 e0 e1
  have e2 : rx2 t w op = (bif decide (op < 0) then (3 : Int) else bif decide (op > 31) then (3 : Int) else bif decide (t ≥ 1000000) then (3 : Int) else 0) := e2
  have e0 : rx0 t w op = (bif decide (op < 0) then (0 : Int) else bif decide (op > 31) then (0 : Int) else bif decide (t ≥ 1000000) then (0 : Int) else IntKind.wrap .i64 (t + 1)) := e0
  have e1 : rx1 t w op = (bif decide (op < 0) then (0 : Int) else bif decide (op > 31) then (0 : Int) else bif decide (t ≥ 1000000) then (0 : Int) else op) := e1
  have en : nxE t w op = sck (t + 1, op) := by unfold nxE; rw [h, hw1]; rfl
  have es : sck (t + 1, op) = if t + 1 < 0 ∨ 1000000 < t + 1 ∨ op < 0 ∨ 31 < op then 3 else 0 := rfl
  by_cases c1 : op < 0
  · have : sck (t + 1, op) = 3 := by rw [es, if_pos (by omega)]
    refine ⟨by rw [e2, en, this, decide_eq_true c1]; rfl, fun hz => ?_⟩
    rw [en, this] at hz; cases hz
  · by_cases c2 : op > 31
    · have : sck (t + 1, op) = 3 := by rw [es, if_pos (by omega)]
      refine ⟨by rw [e2, en, this, decide_eq_false c1, decide_eq_true c2]; rfl, fun hz => ?_⟩
      rw [en, this] at hz; cases hz
    · by_cases c3 : t ≥ 1000000
      · have : sck (t + 1, op) = 3 := by rw [es, if_pos (by omega)]
        refine ⟨by rw [e2, en, this, decide_eq_false c1, decide_eq_false c2, decide_eq_true c3]; rfl, fun hz => ?_⟩
        rw [en, this] at hz; cases hz
      · have this : sck (t + 1, op) = 0 := by rw [es, if_neg (by omega)]
        refine ⟨by rw [e2, en, this, decide_eq_false c1, decide_eq_false c2, decide_eq_false c3]; rfl, fun hz => ?_⟩
        have hb : (nxE t w op != 0) = false := by rw [hz]; rfl
        have f0 : nxT t w op = IntKind.wrap .i64 (t + 1) := by unfold nxT; rw [hb]; rfl
        have f1 : nxW t w op = op := by unfold nxW; rw [hb]; rfl
        rw [e0, e1, f0, f1, decide_eq_false c1, decide_eq_false c2, decide_eq_false c3]
        exact ⟨rfl, rfl⟩
end Go.Proofs.Ytbmbnbhedalcnaa
namespace Go.Proofs.Ytbmbnbhedalcnaa
open Go.RowKit
theorem leaf_ok {R : HR} {op k p : Int} {d : ByteArray} {t w : Int} {s : ByteArray} {hd e : Int} {n8 : Nat} {g8 : Nat → List Value} {rows : Out → Out} (h : R = ⟨op, k, p, d, t, w, s, hd, n8, g8, e⟩) (hr : ∀ o, o.sat (fun _ _ => True) → (rows o).sat (fun _ _ => True)) : (leafR R op k p d t w s hd rows e).sat fun _ _ => True := by
  subst h
  exact sat_ask rfl (sat_ask rfl (sat_ask rfl (sat_ask rfl (sat_ask rfl (sat_ask rfl (sat_ask rfl (sat_ask rfl (hr _ (sat_ask rfl trivial)))))))))
theorem no_ok {R : HR} (h : R.n8 = 0) : ∀ o, o.sat (fun _ _ => True) → (noR R o).sat (fun _ _ => True) := fun _ ho => sat_ask h ho
theorem many_ok {R : HR} {m : Nat} {G : Nat → List Value} (h1 : R.n8 = m) (h2 : R.g8 = G) : ∀ o, o.sat (fun _ _ => True) → (manyR R m G o).sat (fun _ _ => True) := fun _ ho => sat_ask ⟨h1.symm, Nat.le_refl _, fun j _ => by rw [h2]⟩ ho
section
variable {m : Nat} {g : Nat → List Value} {need op k p : Int} {d : ByteArray} {t w : Int} {s : ByteArray} {hd mk mo n x y : Int} {z : ByteArray}
theorem wait_k (h : x_wait op p hd m mk mo n = true) : p = 1 ∧ mk = 2 ∨ p = 2 ∧ mk = 4 := by
  unfold x_wait at h
  cases h1 : (p == 1) with
  | true =>
    rw [h1] at h
    cases h2 : (mk == 2) with
    | true => exact .inl ⟨eq_of_beq h1, eq_of_beq h2⟩
    | false => rw [h2] at h; cases h
  | false =>
    rw [h1] at h
    cases h3 : (p == 2) with
    | true =>
      rw [h3] at h
      cases h2 : (mk == 4) with
      | true => exact .inr ⟨eq_of_beq h3, eq_of_beq h2⟩
      | false => rw [h2] at h; cases h
    | false => rw [h3] at h; cases h
theorem wait_mk (h1 : p = 1 ∧ mk = 2 ∨ p = 2 ∧ mk = 4) (h2 : mo = op) (h3 : n < m) (h4 : bitAt hd n = 0) : x_wait op p hd m mk mo n = true := by
  have e3 : decide (n < (m : Int)) = true := decide_eq_true h3
  have e4 : (bitAt hd n == 0) = true := by rw [h4]; rfl
  have e2 : (mo == op) = true := by rw [h2]; exact beq_self_eq_true op
  unfold x_wait
  rcases h1 with ⟨rfl, rfl⟩ | ⟨rfl, rfl⟩
  · rw [e2, e3]
    exact e4
  · rw [e2, e3]
    exact e4
theorem enough_eq {h : Nat} (hh : h < 18446744073709551616) (hq : qE (wsOf m g) need = 0) (hz : shrV .u64 (h : Int) m = 0) : decide (smI (wsOf m g) h m < need) = !x0_enough m g need h := by
  have hq' := qE_m hq
  rw [ws_len] at hq'
  unfold x0_enough
  have eta : (wsOf m fun j => g j) = wsOf m g := rfl
  have eta' : (wsOf m fun j => g (j + 0)) = wsOf m g := rfl
  rw [eta, eta', hq]
  have hwE : wE (wsOf m g) = 0 := by
    unfold qE at hq
    by_cases e : wE (wsOf m g) ≠ 0
    · rw [if_pos e] at hq; exact absurd hq e
    · omega
  have hsE : sE (wsOf m g) h = 0 := by
    unfold sE
    rw [hwE, if_neg (by decide), ws_len, hz, if_neg (by decide)]
  have hsV : sV (wsOf m g) h = smI (wsOf m g) h m := by
    unfold sV
    rw [if_pos hsE, ws_len, smI_eq hh hq'.1]
  rw [hsV]
  show decide _ = !decide _
  by_cases c : smI (wsOf m g) h m < need
  · rw [decide_eq_true c, decide_eq_false (by omega)]; rfl
  · rw [decide_eq_false c, decide_eq_true (by omega)]; rfl
theorem rest_ok (hw : (Lit.int .u64 hd).wf = true) (hbm : m ≤ 140737488355328) (h0 : x_achk m g need op k p d t w s hd = 0) (h1 : x_wchk mk mo n x y z = 0) {R : HR} (hR : R = hV m g need op k p d t w s hd mk mo n x y z) : (restR R m g need op k p d t w s hd mk mo n x y z).sat fun _ _ => True := by
  obtain ⟨a1, a2, a3, a4, a5, a6, a7, a8, a9⟩ := achk_iff.1 h0
  obtain ⟨hcx, hn0⟩ := wchk_c h1
  have hm : m ≤ 12 := achk_m (by simpa using h0)
  have hq := qE_m a1
  rw [ws_len] at hq
  obtain ⟨hdn, rfl, hlt⟩ := wf_nat hw
  obtain ⟨nn, rfl⟩ : ∃ nn : Nat, n = nn := ⟨n.toNat, by omega⟩
  have sm : ¬ x_wait op p hdn m mk mo nn = true → (sameR R op k p d t w s hdn).sat fun _ _ => True := fun hn => by
    have hn : x_wait op p hdn m mk mo nn = false := by simpa using hn
    have er := hR.trans (hV_wait h0 h1 hn)
    exact leaf_ok er (no_ok (by rw [er]))
  have hB := bst_c (p := p) a8 hcx
  have hs0 : sck ((bst p t w s x y z).1.1, (bst p t w s x y z).1.2) = 0 := by
    unfold cck at hB
    by_cases e : sck ((bst p t w s x y z).1.1, (bst p t w s x y z).1.2) = 0
    · exact e
    · rw [if_neg e] at hB; exact absurd hB e
  have tail : x_wait op p hdn m mk mo nn = true → nn < m → hdn.testBit nn = false → (tailR R m g need op k p d t w s hdn nn (bst p t w s x y z).1.1 (bst p t w s x y z).1.2 (bst p t w s x y z).2).sat fun _ _ => True := fun hwt hnm hbit => by
    have hsmall : hdn < 2 ^ m := by
      rw [shr_nat _ _ (by omega)] at a9
      exact (Nat.div_eq_zero_iff_lt (Nat.two_pow_pos m)).1 (by omega)
    have h12 : hdn < 4096 := Nat.lt_of_lt_of_le hsmall (by have := Nat.pow_le_pow_right (show 0 < 2 by decide) hm; exact this)
    have eH : sumN hdn nn = heardN hdn nn := sum_heard h12 (by omega) hbit
    have eHn : heardN hdn nn = ((hdn ||| 2 ^ nn : Nat) : Int) := heard_nat hlt (by omega)
    have hHz : shrV .u64 (heardN hdn nn) m = 0 := heard_shr hlt hm hnm a9
    have eE : decide (smI (wsOf m g) (sumN hdn nn) m < need) = !x0_enough m g need (heardN hdn nn) := by
      rw [eH, eHn]
      rw [eHn] at hHz
      exact enough_eq (Nat.or_lt_two_pow (n := 64) hlt (Nat.pow_lt_pow_right (a := 2) (n := 64) (by decide) (by omega))) a1 hHz
    unfold tailR
    rw [eE, eH]
    obtain ⟨nx2, nx01⟩ := nx_eq (op := op) hs0
    have hm1 : 1 ≤ (m : Int) ∧ (m : Int) ≤ 12 := by omega
    rcases hV_cases h0 h1 with ⟨h2, e⟩ | ⟨h2, h⟩
    · rw [hwt] at h2; cases h2
    · refine sat_ask ⟨Nat.le_refl _, hbm⟩ (sat_ask ⟨hm, hq.2.2.1⟩ ?_)
      rcases h with ⟨h3, e⟩ | ⟨h3, hp2, e⟩ | ⟨h3, hp1, hk, hx, e⟩ | ⟨h3, hp1, hk, hx, e⟩ | ⟨h3, hp1, hk, e⟩
      · rw [h3]
        have er := hR.trans e
        exact leaf_ok er (no_ok (by rw [er]))
      · rw [h3]
        have er := hR.trans e
        subst hp2
        exact leaf_ok er (no_ok (by rw [er]))
      · rw [h3]
        have er := hR.trans e
        subst hp1
        subst hk
        refine sat_ask ⟨Nat.le_refl _, by omega⟩ (sat_ask rfl ?_)
        rw [nx2, show (nxE (bst 1 t w s x y z).1.1 (bst 1 t w s x y z).1.2 op != 0) = true by simpa using hx]
        exact leaf_ok er (no_ok (by rw [er]))
      · rw [h3]
        have er := hR.trans e
        subst hp1
        subst hk
        refine sat_ask ⟨Nat.le_refl _, by omega⟩ (sat_ask rfl ?_)
        obtain ⟨f0, f1⟩ := nx01 hx
        rw [nx2, hx, f0, f1]
        exact sat_ask hm1 (leaf_ok er (many_ok (by rw [er]) (by rw [er])))
      · rw [h3]
        have er := hR.trans e
        subst hp1
        have hk' : (k == 2) = false := by simpa using hk
        rw [hk']
        exact sat_ask hm1 (leaf_ok er (many_ok (by rw [er]) (by rw [er])))
  have go : (p = 1 ∧ mk = 2 ∨ p = 2 ∧ mk = 4) → (goR R m g need op k p d t w s hdn mo nn x y z).sat fun _ _ => True := fun hf => by
    refine sat_tst (fun c => sm fun hwt => ?_) fun c1 => sat_tst (fun c => sm fun hwt => ?_) fun c2 => sat_ask hn0 (sat_tst (fun c => sm fun hwt => ?_) fun c3 => sat_ask hn0 ?_)
    · have := (wait_t hwt).2.1
      rw [this] at c
      simp at c
    · have := (wait_t hwt).2.2.1
      have c := of_decide_eq_true c
      omega
    · have hnm := (wait_t hwt).2.2.1
      have hb := (wait_t hwt).2.2.2
      have hnm : nn < m := by omega
      rw [bit_nat hlt (by omega)] at hb
      rw [inset_nat (by omega), Nat.testBit_eq_decide_div_mod_eq] at c
      have c := of_decide_eq_true c
      omega
    · have c1 : mo = op := by simpa using c1
      have c2 := of_decide_eq_false c2
      have hnm : nn < m := by omega
      rw [inset_nat (by omega)] at c3
      have hb : bitAt hdn nn = 0 := by
        rw [bit_nat hlt (by omega)]
        rw [Nat.testBit_eq_decide_div_mod_eq] at c3
        have c3 := of_decide_eq_false c3
        omega
      have hwt := wait_mk hf c1 (by omega : (nn : Int) < m) hb
      have tl := tail hwt hnm c3
      refine sat_tst (fun hp => sat_ask ⟨Nat.le_refl _, by decide⟩ (sat_ask (by decide) ?_)) fun hp => ?_
      · have hp : p = 1 := eq_of_beq hp
        subst hp
        exact tl
      · have e : bst p t w s x y z = ((t, w), s) := by unfold bst; rw [hp]; rfl
        rw [e] at tl
        exact tl
  have four : (tst (p == 2) (tst (!mk == 4) (sameR R op k p d t w s hdn) (goR R m g need op k p d t w s hdn mo nn x y z)) (sameR R op k p d t w s hdn)).sat (fun _ _ => True) ∨ (p = 1 ∧ mk = 2) := by
    by_cases hf : p = 1 ∧ mk = 2
    · exact .inr hf
    · left
      refine sat_tst (fun hp => sat_tst (fun hk => sm fun hwt => ?_) fun hk => ?_) fun hp => sm fun hwt => ?_
      · rcases wait_k hwt with h | h
        · exact hf h
        · rw [h.2] at hk; cases hk
      · have hk : mk = 4 := by simpa using hk
        exact go (.inr ⟨eq_of_beq hp, hk⟩)
      · rcases wait_k hwt with h | h
        · exact hf h
        · rw [h.1] at hp; cases hp
  refine sat_tst (fun hp => sat_tst (fun hk => go (.inl ⟨eq_of_beq hp, eq_of_beq hk⟩)) fun hk => ?_) fun hp => ?_
  · rcases four with h | h
    · exact h
    · rw [h.2] at hk; cases hk
  · rcases four with h | h
    · exact h
    · rw [h.1] at hp; cases hp
end
end Go.Proofs.Ytbmbnbhedalcnaa
namespace Go.Proofs.Ytbmbnbhedalcnaa
open Go.RowKit
def aHr : List CA → Prop
  | [_, _, .val (.agg ⟨[_, _, _, _, _, _, _, .int _ hd]⟩), _] => (Lit.int .u64 hd).wf = true
  | _ => False
theorem f_rhear : FOk K36.P 14 (listF [.agg [.rows wtK, .val], .one .val, .one .val] [.agg [.val, .val, .val, .val, .val, .val, .val, .val], .one .val, .one .val] aHr g_hear) := list_f K36_ok Try.func14 rfl rfl (no_loops rfl) fun cas rs hb hk ha h => by
  unfold g_hear at h
  split at h
  · rename_i sh0 m g need op k p d t w s hd mk mo n x y z
    have e0 := kind_rows (i := 0) hk rfl rfl
    have hbm := bnd_rows (i := 0) hb rfl
    subst e0
    have hw : (Lit.int .u64 hd).wf = true := ha
    cases h
    show (evR K36 noL _ [.agg ⟨[.slice (some ⟨0, 0, some 0⟩) m m, .int .i64 need]⟩, .agg ⟨[.int .i64 op, .int .i64 k, .int .i64 p, .string d, .int .i64 t, .int .i64 w, .string s, .int .u64 hd]⟩, .agg ⟨[.int .i64 mk, .int .i64 mo, .int .i64 n, .int .i64 x, .int .i64 y, .string z]⟩] [.recs wtK m g] [.agg [.val, .val, .val, .val, .val, .val, .val, .val], .one .val, .one .val] [.val (.int .i64 (hR m g need op k p d t w s hd mk mo n x y z).op), .val (.int .i64 (hR m g need op k p d t w s hd mk mo n x y z).k), .val (.int .i64 (hR m g need op k p d t w s hd mk mo n x y z).p), .val (.string (hR m g need op k p d t w s hd mk mo n x y z).d), .val (.int .i64 (hR m g need op k p d t w s hd mk mo n x y z).t), .val (.int .i64 (hR m g need op k p d t w s hd mk mo n x y z).w), .val (.string (hR m g need op k p d t w s hd mk mo n x y z).s), .val (.int .u64 (hR m g need op k p d t w s hd mk mo n x y z).hd), .rows 40 msK (hR m g need op k p d t w s hd mk mo n x y z).n8 (hR m g need op k p d t w s hd mk mo n x y z).g8, .val (.int .i64 (hR m g need op k p d t w s hd mk mo n x y z).e)]).sat _
    rw [run_rhear, rack_eq hw, rmchk_eq]
    refine sat_ask ⟨Nat.le_refl _, hbm⟩ (sat_tst (fun h0 => sat_tst (fun h1 => ?_) fun h1 => rest_ok hw hbm (eq_of_beq h0) (eq_of_bne h1) hR_eq) fun h0 => sat_tst (fun h1 => ?_) fun h1 => ?_)
    · have e : hR m g need op k p d t w s hd mk mo n x y z = ⟨0, 0, 0, zS, 0, 0, zS, 0, 0, nil8, x_wchk mk mo n x y z⟩ := by
        rw [hR_eq]; unfold hV; rw [show (x_achk m g need op k p d t w s hd != 0) = false from by rw [eq_of_beq h0]; rfl, h1]; rfl
      exact leaf_ok e (no_ok (by rw [e]))
    · have e : hR m g need op k p d t w s hd mk mo n x y z = ⟨0, 0, 0, zS, 0, 0, zS, 0, 0, nil8, x_achk m g need op k p d t w s hd⟩ := by
        rw [hR_eq]; unfold hV; rw [h1]; rfl
      exact leaf_ok e (no_ok (by rw [e]))
    · have := eq_of_bne h1
      rw [this] at h0
      cases h0
  · cases h
noncomputable def K37 : Kn := K36.addF 14 (listF [.agg [.rows wtK, .val], .one .val, .one .val] [.agg [.val, .val, .val, .val, .val, .val, .val, .val], .one .val, .one .val] aHr g_hear)
theorem K37_ok : K37.Ok := K36_ok.addF f_rhear
theorem K37_P : K37.P = Try.prog := rfl
theorem rbeg_eq (m : Nat) (g : Nat → List Value) (need op k : Int) (d : ByteArray) : x0_rbeg m g need op k d = x0_begin m g need op k d ∧ x1_rbeg m g need op k d = x1_begin m g need op k d ∧ x2_rbeg m g need op k d = x2_begin m g need op k d ∧ x3_rbeg m g need op k d = x3_begin m g need op k d ∧ x4_rbeg m g need op k d = x4_begin m g need op k d ∧ x5_rbeg m g need op k d = x5_begin m g need op k d ∧ x6_rbeg m g need op k d = x6_begin m g need op k d ∧ x7_rbeg m g need op k d = x7_begin m g need op k d ∧ n8_rbeg m g need op k d = n8_begin m g need op k d ∧ g8_rbeg m g need op k d = g8_begin m g need op k d ∧ x9_rbeg m g need op k d = x9_begin m g need op k d := by
  have e : x_rack m (fun j => g j) need op k 1 d 0 0 { data := { toList := [] } } 0 = x_achk m (fun j => g j) need op k 1 d 0 0 { data := { toList := [] } } 0 := rack_eq (by decide)
  unfold x0_rbeg x1_rbeg x2_rbeg x3_rbeg x4_rbeg x5_rbeg x6_rbeg x7_rbeg n8_rbeg g8_rbeg x9_rbeg x0_begin x1_begin x2_begin x3_begin x4_begin x5_begin x6_begin x7_begin n8_begin g8_begin x9_begin
  rw [e]
  exact ⟨rfl, rfl, rfl, rfl, rfl, rfl, rfl, rfl, rfl, rfl, rfl⟩
end Go.Proofs.Ytbmbnbhedalcnaa
