/- EACH SQUARE PART OF A CAUCHY HAS AN INVERSE: the plain mathematics of it. -/
import Derived.Test.YtjpibfnkchbglabCNull
import Derived.Test.YtjpibfnkchbglabRAll1
import Derived.Test.YtjpibfnkchbglabTurn
namespace Go.Proofs.Ytjpibfnkchbglab
open Go.ChangeShapes Go.WideShapes Go.ChangeAt Go.RowKit Go.Shelf
theorem ive_null {A : List (List Nat)} {n : Nat} (hA : Bym A) (rA : Rect A n n) (h : ¬ Null n (ent A)) : ive A = 0 := by
  have e := rect_uniq rA
  have h3 : ¬ ivr A n < n := by
    unfold ivr
    rcases gauss hA n n (Nat.le_refl _) with ⟨h1, _⟩ | ⟨_, h2⟩
    · omega
    · exact absurd h2 h
  unfold ive
  rw [rect_chk rA, e.1, e.2, if_neg (by decide), if_neg (by simp), if_neg h3]
theorem rre_zero {A : List (List Nat)} {L : List Int} {n c : Nat} (rA : Rect A n c) (h : rre A L = 0) : 1 ≤ L.length ∧ L.length ≤ 16 ∧ L.any (bad n) = false ∧ rrm A L = tab L.length c (rwf A L) := by
  have h' := h
  have e := rect_uniq rA
  unfold rre at h
  rw [rect_chk rA, if_neg (by decide), e.1] at h
  by_cases h2 : 16 < L.length
  · rw [if_pos h2] at h; cases h
  · rw [if_neg h2] at h
    by_cases h3 : L.length = 0
    · rw [if_pos h3] at h; cases h
    · rw [if_neg h3] at h
      by_cases h4 : L.any (bad n) = true
      · rw [if_pos h4] at h; cases h
      · refine ⟨by omega, by omega, by simpa using h4, ?_⟩
        unfold rrm
        rw [h', if_neg (by decide), e.2]
theorem whole {r c : Nat} (h1 : 1 ≤ r) (h2 : r ≤ 16) (h3 : 1 ≤ c) (h4 : c ≤ 16) {L T : List Int} (e1 : rre (tab r c (cf r)) L = 0) (hl : T.length = L.length) (e2 : rre (tab c L.length (tf (tab L.length c (rwf (tab r c (cf r)) L)))) T = 0)
    (dL : ∀ a b, a < L.length → b < a → L[a]?.getD 0 ≠ L[b]?.getD 0) (dT : ∀ a b, a < L.length → b < a → T[a]?.getD 0 ≠ T[b]?.getD 0) : ive (rrm (tab c L.length (tf (tab L.length c (rwf (tab r c (cf r)) L)))) T) = 0 := by
  have rC := tab_rect (cf r) h1 h2 h3 h4
  obtain ⟨l1, l2, l3, _⟩ := rre_zero rC e1
  have rX := tab_rect (rwf (tab r c (cf r)) L) l1 l2 h3 h4
  have rT := tab_rect (tf (tab L.length c (rwf (tab r c (cf r)) L))) h3 h4 l1 l2
  obtain ⟨_, _, t3, t4⟩ := rre_zero rT e2
  rw [t4, hl]
  have gL : ∀ b, b < L.length → 0 ≤ L[b]?.getD 0 ∧ L[b]?.getD 0 < r := fun b hb => good_at l3 hb
  have gT : ∀ a, a < L.length → 0 ≤ T[a]?.getD 0 ∧ T[a]?.getD 0 < c := fun a ha => good_at t3 (by omega)
  have ent_eq : ∀ a b, a < L.length → b < L.length → rwf (tab c L.length (tf (tab L.length c (rwf (tab r c (cf r)) L)))) T a b = Gf.inv ((L[b]?.getD 0).toNat ^^^ (r + (T[a]?.getD 0).toNat)) := by
    intro a b ha hb
    have ga := gT a ha
    have gb := gL b hb
    unfold rwf
    rw [ent_tab (by omega) hb]
    unfold tf
    rw [ent_tab hb (by omega), ent_tab (by omega) (by omega)]
    rfl
  have rY := tab_rect (rwf (tab c L.length (tf (tab L.length c (rwf (tab r c (cf r)) L)))) T) l1 l2 l1 l2
  have bY : Bym (tab L.length L.length (rwf (tab c L.length (tf (tab L.length c (rwf (tab r c (cf r)) L)))) T)) := bym_tab fun a b ha hb => by rw [ent_eq a b ha hb]; exact Gf.inv_lt _
  refine ive_null bY rY ?_
  rintro ⟨v, ⟨j, hj, hv⟩, hvb, hn⟩
  apply hv
  refine cauchy_null L.length (x := fun b => (L[b]?.getD 0).toNat) (y := fun a => r + (T[a]?.getD 0).toNat) (v := v) (fun b hb => by have := gL b hb; omega) (fun a ha => by have := gT a ha; omega) (fun b _ => hvb b) (fun a b ha hb => by have := gL b hb; have := gT a ha; omega) ?_ ?_ ?_ j hj
  · intro b b' hb hb' e
    have g := gL b hb
    have g' := gL b' hb'
    rcases Nat.lt_trichotomy b b' with q | q | q
    · exact absurd (by omega) (dL b' b hb' q)
    · exact q
    · exact absurd (by omega) (dL b b' hb q)
  · intro a a' ha ha' e
    have g := gT a ha
    have g' := gT a' ha'
    rcases Nat.lt_trichotomy a a' with q | q | q
    · exact absurd (by omega) (dT a' a ha' q)
    · exact q
    · exact absurd (by omega) (dT a a' ha q)
  · intro a ha
    rw [← hn a ha]
    exact dot_congr (fun b hb => by rw [ent_tab ha hb, ent_eq a b ha hb]) (fun _ _ => rfl)
end Go.Proofs.Ytjpibfnkchbglab
