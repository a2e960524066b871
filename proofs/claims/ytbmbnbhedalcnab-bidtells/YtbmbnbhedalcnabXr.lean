/- What becomes of a seat: the mathematics. -/
import Derived.Test.YtbmbnbhedalcnabXq
namespace Go.Proofs.Ytbmbnbhedalcnab
open Go.RowKit
theorem slt_yes {p q : St} (h : slt p q = true) : p.1 < q.1 ∨ p.1 = q.1 ∧ p.2 < q.2 := of_decide_eq_true h
theorem slt_no {p q : St} (h : slt p q = false) : ¬ (p.1 < q.1 ∨ p.1 = q.1 ∧ p.2 < q.2) := of_decide_eq_false h
theorem slt_opp {p q : St} (h : slt p q = true) : slt q p = false := slt_f (by have := slt_yes h; omega)
/-- p < q, not p < r: not q < r -/
theorem slt_up {p q r : St} (h : slt p q = true) (g : slt p r = false) : slt q r = false := slt_f (by have := slt_yes h; have := slt_no g; omega)
theorem slt_up' {p q r : St} (h : slt q p = false) (g : slt p r = false) : slt q r = false := slt_f (by have := slt_no h; have := slt_no g; omega)
theorem cck_sck {c : Cp} (h : cck c = 0) : sck c.1 = 0 := by
  unfold cck at h
  split at h
  · assumption
  · exact h
theorem cseat_yes {a b t w : Int} {s : ByteArray} (h : x_cseat a b t w s = 0) : sck (a, b) = 0 ∧ cck ((t, w), s) = 0 ∧ slt (a, b) (t, w) = false := by
  unfold x_cseat at h
  by_cases h1 : sck (a, b) = 0
  · by_cases h2 : cck ((t, w), s) = 0
    · cases h3 : slt (a, b) (t, w)
      · exact ⟨h1, h2, rfl⟩
      · simp [h1, h2, h3] at h
    · have g : (cck ((t, w), s) != 0) = true := by simp [h2]
      simp only [h1, g, cond_true, bne_self_eq_false, cond_false] at h
      exact absurd h h2
  · have g : (sck (a, b) != 0) = true := by simp [h1]
    simp only [g, cond_true] at h
    exact absurd h h1
theorem cseat_mk {a b t w : Int} {s : ByteArray} (h1 : sck (a, b) = 0) (h2 : cck ((t, w), s) = 0) (h3 : slt (a, b) (t, w) = false) : x_cseat a b t w s = 0 := by
  simp [x_cseat, h1, h2, h3]
theorem cvote_yes {k b n t w : Int} {s : ByteArray} (h : x_cvote k b n t w s = 0) : cck ((t, w), s) = 0 := by
  by_cases e : cck ((t, w), s) = 0
  · exact e
  · exfalso
    unfold x_cvote at h
    simp only [Bool.cond_eq_ite] at h
    repeat' split at h
    all_goals first | (exact e h) | (cases h; done) | skip
    all_goals simp_all
/-- what Serve hands out -/
theorem serve_three {a b t w : Int} {s : ByteArray} {k bd n x y : Int} {z : ByteArray} (h0 : x_cseat a b t w s = 0) (h1 : x_cvote k bd n x y z = 0) :
    x6_serve a b t w s k bd n x y z = 0 ∧
    ((x0_serve a b t w s k bd n x y z = a ∧ x1_serve a b t w s k bd n x y z = b ∧ x2_serve a b t w s k bd n x y z = t ∧ x3_serve a b t w s k bd n x y z = w ∧ x4_serve a b t w s k bd n x y z = s ∧ n5_serve a b t w s k bd n x y z = 0) ∨
     (k = 1 ∧ slt (a, b) (x, y) = true ∧ x0_serve a b t w s k bd n x y z = x ∧ x1_serve a b t w s k bd n x y z = y ∧ x2_serve a b t w s k bd n x y z = t ∧ x3_serve a b t w s k bd n x y z = w ∧ x4_serve a b t w s k bd n x y z = s ∧ n5_serve a b t w s k bd n x y z = 1) ∨
     (k = 3 ∧ slt (x, y) (a, b) = false ∧ x0_serve a b t w s k bd n x y z = x ∧ x1_serve a b t w s k bd n x y z = y ∧ x2_serve a b t w s k bd n x y z = x ∧ x3_serve a b t w s k bd n x y z = y ∧ x4_serve a b t w s k bd n x y z = z ∧ n5_serve a b t w s k bd n x y z = 1 ∧ g5_serve a b t w s k bd n x y z = litR [vtC (4 : Int) bd n x y ⟨#[]⟩])) := by
  have g0 : (x_cseat a b t w s != 0) = false := by simp [h0]
  have g1 : (x_cvote k bd n x y z != 0) = false := by simp [h1]
  have e6 : x6_serve a b t w s k bd n x y z = 0 := by
    simp only [x6_serve, g0, g1, cond_false]
    cases (k == (1 : Int)) <;> cases slt (a, b) (x, y) <;> cases (k == (3 : Int)) <;> cases slt (x, y) (a, b) <;> rfl
  refine ⟨e6, ?_⟩
  cases g2 : (k == (1 : Int))
  · cases g4 : (k == (3 : Int))
    · exact .inl (by simp only [x0_serve, x1_serve, x2_serve, x3_serve, x4_serve, n5_serve, g0, g1, g2, g4, cond_false]; simp)
    · cases g5 : slt (x, y) (a, b)
      · exact .inr (.inr ⟨by simpa using g4, rfl, by simp only [x0_serve, x1_serve, x2_serve, x3_serve, x4_serve, n5_serve, g5_serve, g0, g1, g2, g4, g5, cond_false, cond_true, Bool.not_false]; simp⟩)
      · exact .inl (by simp only [x0_serve, x1_serve, x2_serve, x3_serve, x4_serve, n5_serve, g0, g1, g2, g4, g5, cond_false, cond_true, Bool.not_true]; simp)
  · have k1 : k = 1 := by simpa using g2
    cases g3 : slt (a, b) (x, y)
    · have g4 : (k == (3 : Int)) = false := by rw [k1]; rfl
      exact .inl (by simp only [x0_serve, x1_serve, x2_serve, x3_serve, x4_serve, n5_serve, g0, g1, g2, g3, g4, cond_false, cond_true]; simp)
    · exact .inr (.inl ⟨k1, rfl, by simp only [x0_serve, x1_serve, x2_serve, x3_serve, x4_serve, n5_serve, g0, g1, g2, g3, cond_true, cond_false]; simp⟩)
theorem serve_bad {a b t w : Int} {s : ByteArray} {k bd n x y : Int} {z : ByteArray} (h : ¬ (x_cseat a b t w s = 0 ∧ x_cvote k bd n x y z = 0)) :
    x6_serve a b t w s k bd n x y z ≠ 0 ∧ x0_serve a b t w s k bd n x y z = 0 ∧ x1_serve a b t w s k bd n x y z = 0 ∧ x2_serve a b t w s k bd n x y z = 0 ∧ x3_serve a b t w s k bd n x y z = 0 ∧ x4_serve a b t w s k bd n x y z = ⟨#[]⟩ ∧ n5_serve a b t w s k bd n x y z = 0 := by
  by_cases h0 : x_cseat a b t w s = 0
  · have h1 : x_cvote k bd n x y z ≠ 0 := fun e => h ⟨h0, e⟩
    have g0 : (x_cseat a b t w s != 0) = false := by simp [h0]
    have g1 : (x_cvote k bd n x y z != 0) = true := by simp [h1]
    simp only [x0_serve, x1_serve, x2_serve, x3_serve, x4_serve, n5_serve, x6_serve, g0, g1, cond_true, cond_false]
    simp [h1]
  · have g0 : (x_cseat a b t w s != 0) = true := by simp [h0]
    simp only [x0_serve, x1_serve, x2_serve, x3_serve, x4_serve, n5_serve, x6_serve, g0, cond_true]
    simp [h0]
end Go.Proofs.Ytbmbnbhedalcnab
