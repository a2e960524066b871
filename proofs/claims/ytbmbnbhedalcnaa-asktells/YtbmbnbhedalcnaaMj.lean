/- A message that comes twice. -/
import Derived.Test.YtbmbnbhedalcnaaMi
namespace Go.Proofs.Ytbmbnbhedalcnaa
open Go.RowKit
section
variable {m : Nat} {g : Nat → List Value} {need op k p : Int} {d : ByteArray} {t w : Int} {s : ByteArray} {hd mk mo n x y : Int} {z : ByteArray}
theorem bst_c (h1 : cck ((t, w), s) = 0) (h2 : cck ((x, y), z) = 0) : cck (((bst p t w s x y z).1.1, (bst p t w s x y z).1.2), (bst p t w s x y z).2) = 0 := by
  show cck (bst p t w s x y z) = 0
  unfold bst
  cases p == 1
  · exact h1
  · rw [cond_true, mg_two h1 h2]
    split
    · exact h2
    · exact h1
theorem nx_c (hd' : decide ((ByteArray.size d : Int) > 64) = false) (h : nxE t w op = 0) : cck ((nxT t w op, nxW t w op), d) = 0 := by
  have hb : (nxE t w op != 0) = false := by simpa using h
  have e1 : nxT t w op = IntKind.wrap .i64 (t + 1) := by unfold nxT; rw [hb]; rfl
  have e2 : nxW t w op = op := by unfold nxW; rw [hb]; rfl
  rw [e1, e2]
  unfold nxE at h
  rw [cz2] at h
  unfold cck
  rw [if_pos h.2, if_neg]
  show ¬ 64 < d.size
  have := of_decide_eq_false hd'
  omega
theorem hV_wait (h0 : x_achk m g need op k p d t w s hd = 0) (h1 : x_wchk mk mo n x y z = 0) (h2 : x_wait op p hd m mk mo n = false) : hV m g need op k p d t w s hd mk mo n x y z = ⟨op, k, p, d, t, w, s, hd, 0, nil8, 0⟩ := by
  unfold hV
  rw [h0, h1, h2]
  rfl
theorem hV_zero (h0 : x_achk m g need op k p d t w s hd = 0) (h1 : x_wchk mk mo n x y z = 0) : (hV m g need op k p d t w s hd mk mo n x y z).e = 0 := by
  unfold hV
  rw [h0, h1]
  cases x_wait op p hd m mk mo n
  · rfl
  · cases x0_enough m g need (heardN hd n)
    · rfl
    · cases p == 2
      · cases k == 2
        · rfl
        · cases nxE (bst p t w s x y z).1.1 (bst p t w s x y z).1.2 op != 0 <;> rfl
      · rfl
/-- what becomes of it, if all is well: not waited for; heard only; done; no time above; put, a write; put, a read -/
theorem hV_cases (h0 : x_achk m g need op k p d t w s hd = 0) (h1 : x_wchk mk mo n x y z = 0) :
    (x_wait op p hd m mk mo n = false ∧ hV m g need op k p d t w s hd mk mo n x y z = ⟨op, k, p, d, t, w, s, hd, 0, nil8, 0⟩)
    ∨ (x_wait op p hd m mk mo n = true ∧ (
        (x0_enough m g need (heardN hd n) = false ∧ hV m g need op k p d t w s hd mk mo n x y z = ⟨op, k, p, d, (bst p t w s x y z).1.1, (bst p t w s x y z).1.2, (bst p t w s x y z).2, heardN hd n, 0, nil8, 0⟩)
        ∨ (x0_enough m g need (heardN hd n) = true ∧ p = 2 ∧ hV m g need op k p d t w s hd mk mo n x y z = ⟨op, k, 3, d, t, w, s, heardN hd n, 0, nil8, 0⟩)
        ∨ (x0_enough m g need (heardN hd n) = true ∧ p = 1 ∧ k = 2 ∧ nxE (bst p t w s x y z).1.1 (bst p t w s x y z).1.2 op ≠ 0 ∧ hV m g need op k p d t w s hd mk mo n x y z = ⟨op, k, p, d, t, w, s, hd, 0, nil8, 0⟩)
        ∨ (x0_enough m g need (heardN hd n) = true ∧ p = 1 ∧ k = 2 ∧ nxE (bst p t w s x y z).1.1 (bst p t w s x y z).1.2 op = 0 ∧ hV m g need op k p d t w s hd mk mo n x y z = ⟨op, k, 2, d, nxT (bst p t w s x y z).1.1 (bst p t w s x y z).1.2 op, nxW (bst p t w s x y z).1.1 (bst p t w s x y z).1.2 op, d, 0, m, toC 3 op (nxT (bst p t w s x y z).1.1 (bst p t w s x y z).1.2 op) (nxW (bst p t w s x y z).1.1 (bst p t w s x y z).1.2 op) d, 0⟩)
        ∨ (x0_enough m g need (heardN hd n) = true ∧ p = 1 ∧ k ≠ 2 ∧ hV m g need op k p d t w s hd mk mo n x y z = ⟨op, k, 2, d, (bst p t w s x y z).1.1, (bst p t w s x y z).1.2, (bst p t w s x y z).2, 0, m, toC 3 op (bst p t w s x y z).1.1 (bst p t w s x y z).1.2 (bst p t w s x y z).2, 0⟩))) := by
  cases h2 : x_wait op p hd m mk mo n with
  | false => exact .inl ⟨rfl, hV_wait h0 h1 h2⟩
  | true =>
    refine .inr ⟨rfl, ?_⟩
    cases h3 : x0_enough m g need (heardN hd n) with
    | false => exact .inl ⟨rfl, by unfold hV; rw [h0, h1, h2, h3]; rfl⟩
    | true =>
      right
      rcases (wait_t h2).1 with rfl | rfl
      · right
        by_cases hk : k = 2
        · subst hk
          by_cases hn : nxE (bst 1 t w s x y z).1.1 (bst 1 t w s x y z).1.2 op = 0
          · exact .inr (.inl ⟨rfl, rfl, rfl, hn, by unfold hV; rw [h0, h1, h2, h3, hn]; rfl⟩)
          · refine .inl ⟨rfl, rfl, rfl, hn, ?_⟩
            have : (nxE (bst 1 t w s x y z).1.1 (bst 1 t w s x y z).1.2 op != 0) = true := by simpa using hn
            unfold hV
            rw [h0, h1, h2, h3, this]
            rfl
        · refine .inr (.inr ⟨rfl, rfl, hk, ?_⟩)
          have : (k == 2) = false := by simpa using hk
          unfold hV
          rw [h0, h1, h2, h3, this]
          rfl
      · exact .inl ⟨rfl, rfl, by unfold hV; rw [h0, h1, h2, h3]; rfl⟩
theorem achk_with {p' t' w' hd' : Int} {s' : ByteArray} (h0 : x_achk m g need op k p d t w s hd = 0) (hp : (!x_aphase p') = false) (hc : cck ((t', w'), s') = 0) (hh : shrV .u64 hd' m = 0) : x_achk m g need op k p' d t' w' s' hd' = 0 := by
  obtain ⟨a1, a2, a3, a4, -, a6, a7, -, -⟩ := achk_iff.1 h0
  exact achk_iff.2 ⟨a1, a2, a3, a4, hp, a6, a7, hc, hh⟩
/-- the second time -/
theorem again (hw : (Lit.int .u64 hd).wf = true) (h0 : x_achk m g need op k p d t w s hd = 0) (h1 : x_wchk mk mo n x y z = 0) {r q : HR} (hr : r = hV m g need op k p d t w s hd mk mo n x y z) (hq : q = hV m g need r.op r.k r.p r.d r.t r.w r.s r.hd mk mo n x y z) :
    q.e = 0 ∧ (r.p ≠ p ∨ q = ⟨r.op, r.k, r.p, r.d, r.t, r.w, r.s, r.hd, 0, nil8, 0⟩) := by
  obtain ⟨a1, a2, a3, a4, a5, a6, a7, a8, a9⟩ := achk_iff.1 h0
  obtain ⟨hcx, hn0⟩ := wchk_c h1
  have hm : m ≤ 12 := achk_m (by simpa using h0)
  obtain ⟨hdn, rfl, hlt⟩ := wf_nat hw
  have hB := bst_c (p := p) a8 hcx
  rcases hV_cases h0 h1 with ⟨h2, e⟩ | ⟨h2, h⟩
  · rw [e] at hr
    subst hr
    rw [e] at hq
    subst hq
    exact ⟨rfl, .inr rfl⟩
  · obtain ⟨hp, rfl, hnm, -⟩ := wait_t h2
    obtain ⟨nn, rfl⟩ : ∃ nn : Nat, n = nn := ⟨n.toNat, by omega⟩
    have hnm : nn < m := by omega
    rcases h with ⟨h3, e⟩ | ⟨h3, hp2, e⟩ | ⟨h3, hp1, hk, hx, e⟩ | ⟨h3, hp1, hk, hx, e⟩ | ⟨h3, hp1, hk, e⟩
    · rw [e] at hr
      subst hr
      have c0 : x_achk m g need mo k p d (bst p t w s x y z).1.1 (bst p t w s x y z).1.2 (bst p t w s x y z).2 (heardN hdn nn) = 0 := achk_with h0 a5 hB (heard_shr hlt hm hnm a9)
      have c2 : x_wait mo p (heardN hdn nn) m mk mo nn = false := by
        cases hh : x_wait mo p (heardN hdn nn) m mk mo nn with
        | false => rfl
        | true => exact absurd (wait_t hh).2.2.2 (heard_bit hlt (by omega))
      have e2 := hV_wait c0 h1 c2
      subst hq
      exact ⟨by rw [e2], .inr e2⟩
    · rw [e] at hr
      subst hr
      have c0 : x_achk m g need mo k 3 d t w s (heardN hdn nn) = 0 := achk_with h0 rfl a8 (heard_shr hlt hm hnm a9)
      subst hq
      exact ⟨hV_zero c0 h1, .inl (by rw [hp2]; show (3 : Int) ≠ 2; decide)⟩
    · rw [e] at hr
      subst hr
      rw [e] at hq
      subst hq
      exact ⟨rfl, .inr rfl⟩
    · rw [e] at hr
      subst hr
      have c0 : x_achk m g need mo k 2 d (nxT (bst p t w s x y z).1.1 (bst p t w s x y z).1.2 mo) (nxW (bst p t w s x y z).1.1 (bst p t w s x y z).1.2 mo) d 0 = 0 := achk_with h0 rfl (nx_c a6 hx) (zero_shr m)
      subst hq
      exact ⟨hV_zero c0 h1, .inl (by rw [hp1]; show (2 : Int) ≠ 1; decide)⟩
    · rw [e] at hr
      subst hr
      have c0 : x_achk m g need mo k 2 d (bst p t w s x y z).1.1 (bst p t w s x y z).1.2 (bst p t w s x y z).2 0 = 0 := achk_with h0 rfl hB (zero_shr m)
      subst hq
      exact ⟨hV_zero c0 h1, .inl (by rw [hp1]; show (2 : Int) ≠ 1; decide)⟩
end
end Go.Proofs.Ytbmbnbhedalcnaa
