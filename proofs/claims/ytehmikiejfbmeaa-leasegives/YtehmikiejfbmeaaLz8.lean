/- What becomes of a lease and of a fence, in words. -/
import Derived.Test.YtehmikiejfbmeaaLz7
namespace Go.Proofs.Ytehmikiejfbmeaa
open Go.RowKit
def Good (h t k : Int) : Prop := 0 ≤ h ∧ h ≤ 1000 ∧ 0 ≤ t ∧ t ≤ 1000000 ∧ 0 ≤ k ∧ k ≤ 1000000
abbrev Tm (n : Int) : Prop := 0 ≤ n ∧ n ≤ 1000000
def CheckSpec (h t k e : Int) : Prop := (e = 0 ∧ Good h t k) ∨ (e = 3 ∧ ¬ Good h t k)
def HeldSpec (h t k now a e : Int) : Prop :=
  (e = 3 ∧ a = 0 ∧ ¬ (Good h t k ∧ Tm now)) ∨ (e = 0 ∧ Good h t k ∧ Tm now ∧ now < t ∧ a = h) ∨ (e = 0 ∧ Good h t k ∧ Tm now ∧ t ≤ now ∧ a = 0)
def Asked (who term : Int) : Prop := 1 ≤ who ∧ who ≤ 1000 ∧ 1 ≤ term ∧ term ≤ 10000
def Least (n m x : Int) : Prop := (n ≤ m ∧ x = n) ∨ (m ≤ n ∧ x = m)
def TakeSpec (h t k who now term a b c e : Int) : Prop :=
  (e = 3 ∧ a = 0 ∧ b = 0 ∧ c = 0 ∧ ¬ (Good h t k ∧ Tm now ∧ Asked who term)) ∨
  (e = 4 ∧ a = 0 ∧ b = 0 ∧ c = 0 ∧ Good h t k ∧ Tm now ∧ Asked who term ∧ now < t ∧ h ≠ 0 ∧ h ≠ who) ∨
  (e = 2 ∧ a = 0 ∧ b = 0 ∧ c = 0 ∧ Good h t k ∧ Tm now ∧ Asked who term ∧ (t ≤ now ∨ h = 0) ∧ k = 1000000) ∨
  (e = 0 ∧ Good h t k ∧ Tm now ∧ Asked who term ∧ now < t ∧ h = who ∧ a = who ∧ c = k ∧ ((t ≤ now + term ∧ Least (now + term) 1000000 b) ∨ (now + term ≤ t ∧ b = t))) ∨
  (e = 0 ∧ Good h t k ∧ Tm now ∧ Asked who term ∧ (t ≤ now ∨ h = 0) ∧ k < 1000000 ∧ a = who ∧ c = k + 1 ∧ Least (now + term) 1000000 b)
def GiveSpec (h t k who tok now a b c e : Int) : Prop :=
  (e = 3 ∧ a = 0 ∧ b = 0 ∧ c = 0 ∧ ¬ (Good h t k ∧ Tm now)) ∨
  (e = 4 ∧ a = 0 ∧ b = 0 ∧ c = 0 ∧ Good h t k ∧ Tm now ∧ ¬ (now < t ∧ h ≠ 0 ∧ h = who ∧ k = tok)) ∨
  (e = 0 ∧ Good h t k ∧ Tm now ∧ now < t ∧ h ≠ 0 ∧ h = who ∧ k = tok ∧ a = 0 ∧ b = now ∧ c = tok)
def PassSpec (s k a e : Int) : Prop :=
  (e = 3 ∧ a = 0 ∧ ¬ (Tm s ∧ Tm k)) ∨ (e = 4 ∧ a = 0 ∧ Tm s ∧ Tm k ∧ k < s) ∨ (e = 0 ∧ Tm s ∧ Tm k ∧ s ≤ k ∧ a = k)
theorem from_eq (n a b : Int) : x_from n a b = decide (a ≤ n ∧ n ≤ b) := by
  unfold x_from
  by_cases h : a ≤ n <;> simp [h]
theorem istime_eq (n : Int) : x_istime n = decide (Tm n) := by
  unfold x_istime Tm
  rw [from_eq]
theorem notime_eq (n : Int) : x_notime n = !decide (Tm n) := by
  unfold x_notime Tm
  by_cases h : n < 0
  · have : ¬ 0 ≤ n := by omega
    simp [h, this]
  · have : 0 ≤ n := by omega
    by_cases h2 : n ≤ 1000000
    · have h3 : ¬ 1000000 < n := by omega
      simp [h, this, h2, h3]
    · have h3 : 1000000 < n := by omega
      simp [h, this, h2, h3]
theorem lc_spec (h t k : Int) : CheckSpec h t k (x_lc h t k) := by
  unfold x_lc CheckSpec
  rw [from_eq, istime_eq, istime_eq]
  simp only [cond_eq_ite, Bool.not_eq_true', decide_eq_false_iff_not]
  unfold Good Tm
  split
  · omega
  split
  · omega
  split <;> omega
theorem rlc_spec (h t k : Int) : CheckSpec h t k (x_rlc h t k) := by
  unfold x_rlc CheckSpec
  rw [notime_eq, notime_eq]
  simp only [cond_eq_ite, Bool.not_eq_true', decide_eq_false_iff_not, decide_eq_true_eq]
  unfold Good Tm
  split
  · omega
  split
  · omega
  split
  · omega
  split <;> omega
theorem check_one {h t k e e' : Int} (p : CheckSpec h t k e) (q : CheckSpec h t k e') : e = e' := by
  unfold CheckSpec at p q
  rcases p with ⟨p, p'⟩ | ⟨p, p'⟩ <;> rcases q with ⟨q, q'⟩ | ⟨q, q'⟩
  · omega
  · exact absurd p' q'
  · exact absurd q' p'
  · omega
theorem held_spec (h t k now : Int) : HeldSpec h t k now (x0_held h t k now) (x1_held h t k now) := by
  have hc := lc_spec h t k
  unfold x0_held x1_held HeldSpec
  rw [istime_eq]
  revert hc
  generalize x_lc h t k = c
  simp only [cond_eq_ite, Bool.not_eq_true', decide_eq_false_iff_not, decide_eq_true_eq, bne_iff_ne, ne_eq]
  unfold CheckSpec Good Tm
  intro hc
  split
  · omega
  split
  · omega
  split <;> omega
theorem rheld_spec (h t k now : Int) : HeldSpec h t k now (x0_rheld h t k now) (x1_rheld h t k now) := by
  have hc := rlc_spec h t k
  unfold x0_rheld x1_rheld HeldSpec
  rw [notime_eq]
  revert hc
  generalize x_rlc h t k = c
  simp only [cond_eq_ite, Bool.not_eq_true', decide_eq_false_iff_not, decide_eq_true_eq, bne_iff_ne, ne_eq]
  unfold CheckSpec Good Tm
  intro hc
  split
  · omega
  split
  · omega
  split <;> omega
theorem fp_spec (s k : Int) : PassSpec s k (x0_fp s k) (x1_fp s k) := by
  unfold x0_fp x1_fp PassSpec
  rw [istime_eq, istime_eq]
  simp only [cond_eq_ite, Bool.not_eq_true', decide_eq_false_iff_not, decide_eq_true_eq]
  unfold Tm
  split
  · omega
  split
  · omega
  split <;> omega
theorem rfp_spec (s k : Int) : PassSpec s k (x0_rfp s k) (x1_rfp s k) := by
  unfold x0_rfp x1_rfp PassSpec
  rw [notime_eq, notime_eq]
  simp only [cond_eq_ite, Bool.not_eq_true', decide_eq_false_iff_not, decide_eq_true_eq]
  unfold Tm
  split
  · omega
  split
  · omega
  split <;> omega
theorem give_spec (h t k who tok now : Int) : GiveSpec h t k who tok now (x0_give h t k who tok now) (x1_give h t k who tok now) (x2_give h t k who tok now) (x3_give h t k who tok now) := by
  have hc := lc_spec h t k
  unfold x0_give x1_give x2_give x3_give GiveSpec
  rw [istime_eq]
  revert hc
  generalize x_lc h t k = c
  simp only [cond_eq_ite, Bool.not_eq_true', decide_eq_false_iff_not, decide_eq_true_eq, bne_iff_ne, ne_eq, beq_iff_eq]
  unfold CheckSpec Good Tm
  intro hc
  split
  · omega
  split
  · omega
  split
  · split
    · omega
    split
    · omega
    split <;> omega
  · omega
theorem rgive_spec (h t k who tok now : Int) : GiveSpec h t k who tok now (x0_rgive h t k who tok now) (x1_rgive h t k who tok now) (x2_rgive h t k who tok now) (x3_rgive h t k who tok now) := by
  have hc := rheld_spec h t k now
  unfold x0_rgive x1_rgive x2_rgive x3_rgive GiveSpec
  revert hc
  generalize x0_rheld h t k now = a
  generalize x1_rheld h t k now = c
  simp only [cond_eq_ite, bne_iff_ne, ne_eq, beq_iff_eq]
  unfold HeldSpec Good Tm
  intro hc
  split
  · omega
  split
  · omega
  split
  · omega
  split <;> omega
theorem take_bad {h t k who now term e : Int} (he : e = 3) (hn : ¬ (Good h t k ∧ Tm now ∧ Asked who term)) : TakeSpec h t k who now term 0 0 0 e := .inl ⟨he, rfl, rfl, rfl, hn⟩
theorem take_four {h t k who now term : Int} (hg : Good h t k) (hn : Tm now) (ha : Asked who term) (h1 : now < t) (h2 : h ≠ 0) (h3 : h ≠ who) : TakeSpec h t k who now term 0 0 0 4 := .inr (.inl ⟨rfl, rfl, rfl, rfl, hg, hn, ha, h1, h2, h3⟩)
theorem take_two {h t k who now term : Int} (hg : Good h t k) (hn : Tm now) (ha : Asked who term) (h1 : t ≤ now ∨ h = 0) (h2 : k = 1000000) : TakeSpec h t k who now term 0 0 0 2 := .inr (.inr (.inl ⟨rfl, rfl, rfl, rfl, hg, hn, ha, h1, h2⟩))
theorem take_stay {h t k who now term b : Int} (hg : Good h t k) (hn : Tm now) (ha : Asked who term) (h1 : now < t) (h2 : h = who) (h3 : (t ≤ now + term ∧ Least (now + term) 1000000 b) ∨ (now + term ≤ t ∧ b = t)) : TakeSpec h t k who now term who b k 0 := .inr (.inr (.inr (.inl ⟨rfl, hg, hn, ha, h1, h2, rfl, rfl, h3⟩)))
theorem take_new {h t k who now term b : Int} (hg : Good h t k) (hn : Tm now) (ha : Asked who term) (h1 : t ≤ now ∨ h = 0) (h2 : k < 1000000) (h3 : Least (now + term) 1000000 b) : TakeSpec h t k who now term who b (k + 1) 0 := .inr (.inr (.inr (.inr ⟨rfl, hg, hn, ha, h1, h2, rfl, rfl, h3⟩)))
theorem wrap_sum {now term : Int} (hn : Tm now) (ht : 1 ≤ term ∧ term ≤ 10000) : IntKind.wrap IntKind.i64 (now + term) = now + term := by
  unfold Tm at hn
  rw [IntKind.wrap_i64]
  omega
theorem wrap_next {h t k : Int} (hg : Good h t k) : IntKind.wrap IntKind.i64 (k + 1) = k + 1 := by
  unfold Good at hg
  rw [IntKind.wrap_i64]
  omega
theorem least_of {x : Int} : Least x 1000000 (if x < 1000000 then x else 1000000) := by
  unfold Least
  split <;> omega
theorem least_of2 {x : Int} : Least x 1000000 (if (1000000 : Int) < x then 1000000 else x) := by
  unfold Least
  split <;> omega
theorem later_of {x t m : Int} (hm : Least x 1000000 m) (ht : t ≤ 1000000) : (t ≤ x ∧ Least x 1000000 (if m > t then m else t)) ∨ (x ≤ t ∧ (if m > t then m else t) = t) := by
  unfold Least at hm ⊢
  split <;> omega
theorem take_spec (h t k who now term : Int) : TakeSpec h t k who now term (x0_take h t k who now term) (x1_take h t k who now term) (x2_take h t k who now term) (x3_take h t k who now term) := by
  have hc := lc_spec h t k
  unfold x0_take x1_take x2_take x3_take
  rw [istime_eq, from_eq, from_eq]
  revert hc
  generalize x_lc h t k = c
  simp only [cond_eq_ite, Bool.not_eq_true', decide_eq_false_iff_not, decide_eq_true_eq, bne_iff_ne, ne_eq, beq_iff_eq]
  unfold CheckSpec
  intro hc
  split
  · exact take_bad (by omega) fun h => by rcases hc with hc | hc; exact absurd hc.1 (by assumption); exact hc.2 h.1
  have hg : Good h t k := by rcases hc with hc | hc; exact hc.2; omega
  split
  · exact take_bad rfl fun h => absurd h.2.1 (by assumption)
  have hn : Tm now := by rename_i hn; exact Decidable.of_not_not hn
  split
  · split
    · exact take_bad rfl fun h => by unfold Asked at h; omega
    split
    · exact take_bad rfl fun h => by unfold Asked at h; omega
    rename_i ht
    have ht : 1 ≤ term ∧ term ≤ 10000 := by omega
    rw [wrap_sum hn ht, wrap_next hg]
    have ha : Asked who term := by unfold Asked; omega
    have h6 : t ≤ 1000000 := hg.2.2.2.1
    split
    · rename_i hw
      exact take_stay hg hn ha (by assumption) hw (later_of least_of2 h6)
    split
    · exact take_four hg hn ha (by assumption) (by assumption) (by assumption)
    split
    · exact take_two hg hn ha (by omega) (by assumption)
    · exact take_new hg hn ha (by omega) (by have := hg.2.2.2.2.2; omega) least_of2
  · split
    · exact take_bad rfl fun h => by unfold Asked at h; omega
    split
    · exact take_bad rfl fun h => by unfold Asked at h; omega
    rename_i ht
    have ht : 1 ≤ term ∧ term ≤ 10000 := by omega
    rw [wrap_sum hn ht, wrap_next hg]
    have ha : Asked who term := by unfold Asked; omega
    split
    · omega
    split
    · exact take_two hg hn ha (by omega) (by assumption)
    · exact take_new hg hn ha (by omega) (by have := hg.2.2.2.2.2; omega) least_of2
set_option maxHeartbeats 2000000 in
theorem rtake_spec (h t k who now term : Int) : TakeSpec h t k who now term (x0_rtake h t k who now term) (x1_rtake h t k who now term) (x2_rtake h t k who now term) (x3_rtake h t k who now term) := by
  have hc := rheld_spec h t k now
  unfold x0_rtake x1_rtake x2_rtake x3_rtake
  revert hc
  generalize x0_rheld h t k now = a
  generalize x1_rheld h t k now = c
  simp only [cond_eq_ite, decide_eq_true_eq, bne_iff_ne, ne_eq, beq_iff_eq]
  unfold HeldSpec
  intro hc
  split
  · exact take_bad rfl fun h => by rcases hc with hc | hc | hc; exact hc.2.2 ⟨h.1, h.2.1⟩; omega; omega
  have hg : Good h t k := by rcases hc with hc | hc | hc; omega; exact hc.2.1; exact hc.2.1
  have hn : Tm now := by rcases hc with hc | hc | hc; omega; exact hc.2.2.1; exact hc.2.2.1
  have hq : (now < t ∧ a = h) ∨ (t ≤ now ∧ a = 0) := by rcases hc with hc | hc | hc; omega; exact .inl hc.2.2.2; exact .inr hc.2.2.2
  clear hc
  split
  · exact take_bad rfl fun h => by unfold Asked at h; omega
  split
  · exact take_bad rfl fun h => by unfold Asked at h; omega
  split
  · exact take_bad rfl fun h => by unfold Asked at h; omega
  split
  · exact take_bad rfl fun h => by unfold Asked at h; omega
  have ha : Asked who term := by unfold Asked; omega
  have ha1 : 1 ≤ who := ha.1
  have hg1 : 0 ≤ h := hg.1
  have hg6 : t ≤ 1000000 := hg.2.2.2.1
  have hg7 : k ≤ 1000000 := hg.2.2.2.2.2
  rw [wrap_sum hn (by omega), wrap_next hg]
  split
  · split
    · have e : h = who := by omega
      subst e
      split
      · exact take_stay hg hn ha (by omega) rfl (by unfold Least; omega)
      · exact take_stay hg hn ha (by omega) rfl (by unfold Least; omega)
    split
    · exact take_four hg hn ha (by omega) (by omega) (by omega)
    split
    · exact take_two hg hn ha (by omega) (by omega)
    · exact take_new hg hn ha (by omega) (by omega) (by unfold Least; omega)
  · split
    · have e : h = who := by omega
      subst e
      split
      · exact take_stay hg hn ha (by omega) rfl (by unfold Least; omega)
      · exact take_stay hg hn ha (by omega) rfl (by unfold Least; omega)
    split
    · exact take_four hg hn ha (by omega) (by omega) (by omega)
    split
    · exact take_two hg hn ha (by omega) (by omega)
    · exact take_new hg hn ha (by omega) (by omega) (by unfold Least; omega)
theorem least_one {n m x y : Int} (p : Least n m x) (q : Least n m y) : x = y := by
  unfold Least at p q
  omega
theorem held_one {h t k now a e a' e' : Int} (p : HeldSpec h t k now a e) (q : HeldSpec h t k now a' e') : a = a' ∧ e = e' := by
  unfold HeldSpec Good Tm at p q
  omega
theorem pass_one {s k a e a' e' : Int} (p : PassSpec s k a e) (q : PassSpec s k a' e') : a = a' ∧ e = e' := by
  unfold PassSpec Tm at p q
  omega
theorem give_one {h t k who tok now a b c e a' b' c' e' : Int} (p : GiveSpec h t k who tok now a b c e) (q : GiveSpec h t k who tok now a' b' c' e') : (a = a' ∧ b = b' ∧ c = c') ∧ e = e' := by
  unfold GiveSpec Good Tm at p q
  omega
theorem take_one {h t k who now term a b c e a' b' c' e' : Int} (p : TakeSpec h t k who now term a b c e) (q : TakeSpec h t k who now term a' b' c' e') : (a = a' ∧ b = b' ∧ c = c') ∧ e = e' := by
  unfold TakeSpec at p q
  rcases p with p | p | p | p | p <;> rcases q with q | q | q | q | q
  · omega
  · exact absurd ⟨q.2.2.2.2.1, q.2.2.2.2.2.1, q.2.2.2.2.2.2.1⟩ p.2.2.2.2
  · exact absurd ⟨q.2.2.2.2.1, q.2.2.2.2.2.1, q.2.2.2.2.2.2.1⟩ p.2.2.2.2
  · exact absurd ⟨q.2.1, q.2.2.1, q.2.2.2.1⟩ p.2.2.2.2
  · exact absurd ⟨q.2.1, q.2.2.1, q.2.2.2.1⟩ p.2.2.2.2
  · exact absurd ⟨p.2.2.2.2.1, p.2.2.2.2.2.1, p.2.2.2.2.2.2.1⟩ q.2.2.2.2
  · omega
  · omega
  · omega
  · omega
  · exact absurd ⟨p.2.2.2.2.1, p.2.2.2.2.2.1, p.2.2.2.2.2.2.1⟩ q.2.2.2.2
  · omega
  · omega
  · unfold Asked at p; omega
  · omega
  · exact absurd ⟨p.2.1, p.2.2.1, p.2.2.2.1⟩ q.2.2.2.2
  · omega
  · unfold Asked at q; omega
  · unfold Least Good at p q; omega
  · unfold Asked at p; omega
  · exact absurd ⟨p.2.1, p.2.2.1, p.2.2.2.1⟩ q.2.2.2.2
  · omega
  · omega
  · unfold Asked at p; omega
  · have := least_one p.2.2.2.2.2.2.2.2 q.2.2.2.2.2.2.2.2
    omega
abbrev leK : List LK := [.kInt .i64, .kInt .i64, .kInt .i64]
abbrev feK : List LK := [.kInt .i64]
theorem take_f {h t k who now term a b c e : Int} (p : TakeSpec h t k who now term a b c e) : (e ≠ 0 → a = 0 ∧ b = 0 ∧ c = 0) ∧ (e = 0 → a = who ∧ Good a b c ∧ Tm now ∧ Asked who term ∧ now ≤ b ∧ (b = now → now = 1000000) ∧ (now + term ≤ b ∨ b = 1000000) ∧ Good h t k ∧ ((now < t ∧ h = who ∧ c = k ∧ t ≤ b) ∨ ((t ≤ now ∨ h = 0) ∧ c = k + 1))) := by
  unfold TakeSpec at p
  rcases p with p | p | p | p | p
  · exact ⟨fun _ => ⟨p.2.1, p.2.2.1, p.2.2.2.1⟩, fun h => by omega⟩
  · exact ⟨fun _ => ⟨p.2.1, p.2.2.1, p.2.2.2.1⟩, fun h => by omega⟩
  · exact ⟨fun _ => ⟨p.2.1, p.2.2.1, p.2.2.2.1⟩, fun h => by omega⟩
  · refine ⟨fun h => absurd p.1 h, fun _ => ?_⟩
    obtain ⟨-, hg, hn, ha, h1, h2, h3, h4, h5⟩ := p
    refine ⟨h3, ?_, hn, ha, ?_, ?_, ?_, hg, .inl ⟨h1, h2, h4, ?_⟩⟩
    · unfold Good Asked Tm Least at *; omega
    · unfold Asked Least at *; omega
    · unfold Asked Tm Least at *; omega
    · unfold Asked Least at *; omega
    · unfold Good Asked Tm Least at *; omega
  · refine ⟨fun h => absurd p.1 h, fun _ => ?_⟩
    obtain ⟨-, hg, hn, ha, h1, h2, h3, h4, h5⟩ := p
    refine ⟨h3, ?_, hn, ha, ?_, ?_, ?_, hg, .inr ⟨h1, h4⟩⟩
    · unfold Good Asked Tm Least at *; omega
    · unfold Asked Tm Least at *; omega
    · unfold Asked Tm Least at *; omega
    · unfold Asked Least at *; omega
theorem held_f {h t k now a e : Int} (p : HeldSpec h t k now a e) (hg : Good h t k) (hn : Tm now) : e = 0 ∧ (now < t → a = h) ∧ (t ≤ now → a = 0) := by
  unfold HeldSpec at p
  rcases p with p | p | p
  · exact absurd ⟨hg, hn⟩ p.2.2
  · omega
  · omega
theorem take_no {h t k who now term a b c e : Int} (p : TakeSpec h t k who now term a b c e) (h1 : now < t) (h2 : h ≠ 0) (h3 : h ≠ who) : e ≠ 0 := by
  unfold TakeSpec at p
  rcases p with p | p | p | p | p <;> omega
theorem check_f {h t k e : Int} (p : CheckSpec h t k e) (hg : Good h t k) : e = 0 := by
  unfold CheckSpec at p
  rcases p with p | p
  · exact p.1
  · exact absurd hg p.2
theorem give_f {h t k who tok now a b c e : Int} (p : GiveSpec h t k who tok now a b c e) : (e ≠ 0 → a = 0 ∧ b = 0 ∧ c = 0) ∧ (e = 0 → Good h t k ∧ Tm now ∧ k = tok ∧ a = 0 ∧ b = now ∧ c = tok ∧ who ≠ 0) := by
  unfold GiveSpec at p
  rcases p with p | p | p
  · exact ⟨fun _ => ⟨p.2.1, p.2.2.1, p.2.2.2.1⟩, fun h => by omega⟩
  · exact ⟨fun _ => ⟨p.2.1, p.2.2.1, p.2.2.2.1⟩, fun h => by omega⟩
  · exact ⟨fun h => absurd p.1 h, fun _ => ⟨p.2.1, p.2.2.1, by omega, by omega, by omega, by omega, by omega⟩⟩
theorem give_none {t k who tok now a b c e : Int} (p : GiveSpec 0 t k who tok now a b c e) (hg : Good 0 t k) (hn : Tm now) : e = 4 := by
  unfold GiveSpec at p
  rcases p with p | p | p
  · exact absurd ⟨hg, hn⟩ p.2.2.2.2
  · exact p.1
  · omega
theorem take_free {t k who now term a b c e : Int} (p : TakeSpec 0 t k who now term a b c e) : e = 3 ∨ (e = 2 ∧ k = 1000000) ∨ (e = 0 ∧ c = k + 1 ∧ a = who) := by
  unfold TakeSpec at p
  rcases p with p | p | p | p | p
  · exact .inl p.1
  · omega
  · omega
  · have := p.2.2.2.1
    unfold Asked at this
    omega
  · exact .inr (.inr ⟨p.1, p.2.2.2.2.2.2.2.1, p.2.2.2.2.2.2.1⟩)
theorem pass_f {s k a e : Int} (p : PassSpec s k a e) (hs : Tm s) (hk : Tm k) : (s ≤ k → a = k ∧ e = 0) ∧ (k < s → e = 4) := by
  unfold PassSpec at p
  rcases p with p | p | p
  · exact absurd ⟨hs, hk⟩ p.2.2
  · omega
  · omega
end Go.Proofs.Ytehmikiejfbmeaa
