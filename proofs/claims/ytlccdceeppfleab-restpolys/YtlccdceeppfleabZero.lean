/- A polynomial that has as many different zeroes as it has factors is nought everywhere; so as many values as factors tell it. -/
import Derived.Test.YtlccdceeppfleabQuo
namespace Go.Proofs.Ytlccdceeppfleab
open Go.ChangeShapes Go.WideShapes Go.ChangeAt Go.RowKit Go.Shelf
theorem xor_six (p a q s : Nat) : p ^^^ a ^^^ (q ^^^ a) = p ^^^ s ^^^ (s ^^^ q) := by
  apply Nat.eq_of_testBit_eq
  intro i
  simp only [Nat.testBit_xor]
  cases p.testBit i <;> cases a.testBit i <;> cases q.testBit i <;> cases s.testBit i <;> rfl
/-- the quotient by x + r, factor by factor the value of what stands behind -/
def sd (r : Nat) : List Nat → List Nat
  | [] => []
  | _ :: L => pval L r :: sd r L
theorem sd_len (r : Nat) : ∀ L : List Nat, (sd r L).length = L.length
  | [] => rfl
  | _ :: L => by simp [sd, sd_len r L]
theorem sd_byt {r : Nat} : ∀ {L : List Nat}, Byt L → Byt (sd r L)
  | [], _ => by intro x hx; cases hx
  | _ :: L, h => by
    intro x hx
    rcases List.mem_cons.1 hx with rfl | hx
    · exact pval_lt h.tail r
    · exact sd_byt h.tail x hx
theorem sd_val {r x : Nat} (hr : r < 256) (hx : x < 256) : ∀ {L : List Nat}, Byt L → pval L x ^^^ pval L r = Gf.gm (x ^^^ r) (pval (sd r L) x)
  | [], _ => by rw [pval_nil, pval_nil, sd, pval_nil, Gf.gm_zeroR]; rfl
  | a :: L, h => by
    have ih := sd_val hr hx h.tail
    have l1 := pval_lt h.tail x
    have l2 := pval_lt h.tail r
    have l3 := pval_lt (sd_byt (r := r) h.tail) x
    rw [pval_cons, pval_cons, sd, pval_cons]
    rw [Gf.gm_addR, ← Gf.gm_assoc (Gf.xlt hx hr) l3, ← ih]
    rw [Gf.gm_addL l1 l2, Gf.gm_comm (Gf.xlt hx hr) l2, Gf.gm_addR]
    generalize Gf.gm (pval L x) x = p
    generalize Gf.gm (pval L r) r = q
    generalize Gf.gm (pval L r) x = s
    exact xor_six p a q s
/-- a polynomial's factors are noughts, if its quotient by x + r has none else, and it is 0 at r -/
theorem sd_zero {r : Nat} : ∀ {L : List Nat}, (∀ z ∈ sd r L, z = 0) → pval L r = 0 → ∀ z ∈ L, z = 0
  | [], _, _ => by intro z hz; cases hz
  | a :: L, h, h0 => by
    have e := h (pval L r) (by simp [sd])
    have t := sd_zero (L := L) (fun z hz => h z (by simp [sd, hz])) e
    rw [pval_cons, e, Gf.gm_zeroL, Nat.zero_xor] at h0
    intro z hz
    rcases List.mem_cons.1 hz with rfl | hz
    · exact h0
    · exact t z hz
theorem zero_byt {L : List Nat} (h : ∀ z ∈ L, z = 0) : Byt L := fun z hz => by rw [h z hz]; decide
/-- as many zeroes as factors: nothing but noughts. (The quotient keeps the length: its last factor is a nought.) -/
theorem zeroes : ∀ (xs : List Nat) {L : List Nat}, Byt xs → xs.Nodup → Byt L → (trim L).length ≤ xs.length → (∀ x ∈ xs, pval L x = 0) → ∀ z ∈ L, z = 0
  | [], L, _, _, hL, hl, _ => by
    obtain ⟨Z, e, hZ⟩ := trim_split L
    have : trim L = [] := List.length_eq_zero_iff.1 (by simpa using hl)
    rw [this] at e
    rw [e]
    exact hZ
  | r :: xs, L, hx, hn, hL, hl, h => by
    have hr := hx.head
    have h0 := h r (by simp)
    have hs := sd_byt (r := r) hL
    refine sd_zero (r := r) (zeroes xs hx.tail (List.nodup_cons.1 hn).2 hs ?_ ?_) h0
    · have hk : ∀ k, (trim L).length ≤ k + 1 → co (sd r L) k = 0 := by
        intro k hk
        have hh : ∀ (L : List Nat) (k : Nat), co (sd r L) k = pval (L.drop (k + 1)) r := by
          intro L
          induction L with
          | nil => intro k; simp [sd, co, pval_nil]
          | cons a L ih =>
            intro k
            cases k with
            | zero => simp [sd, co]
            | succ k => rw [sd, co_succ, ih]; simp
        rw [hh]
        obtain ⟨Z, e, hZ⟩ := trim_split L
        apply pval_zeros
        intro z hz
        rw [e] at hz
        rw [List.drop_append, List.drop_eq_nil_of_le (by omega), List.nil_append] at hz
        exact hZ z (List.mem_of_mem_drop hz)
      simp at hl
      by_cases hc : (trim (sd r L)).length ≤ xs.length
      · exact hc
      · have := co_top (L := sd r L) (by omega)
        rw [co_trim] at this
        exact absurd (hk _ (by omega)) this
    · intro x hxx
      have hxl := hx.tail x hxx
      have e := sd_val hr hxl hL
      rw [h x (by simp [hxx]), h0, Nat.xor_zero] at e
      rcases (Gf.gm_eq_zero (Gf.xlt hxl hr) (pval_lt hs x)).1 e.symm with e | e
      · have := xor_zero_eq e
        subst this
        exact absurd hxx (List.nodup_cons.1 hn).1
      · exact e
/-- two that have the same values at as many places as either has factors are one -/
theorem told {A B : List Nat} (xs : List Nat) (hx : Byt xs) (hn : xs.Nodup) (hA : Byt A) (hB : Byt B) (la : (trim A).length ≤ xs.length) (lb : (trim B).length ≤ xs.length) (h : ∀ x ∈ xs, pval A x = pval B x) : trim A = trim B := by
  refine trim_ext fun n => ?_
  have hz : ∀ z ∈ plus A B, z = 0 := by
    refine zeroes xs hx hn (byt_plus hA hB) ?_ ?_
    · by_cases hc : (trim (plus A B)).length ≤ xs.length
      · exact hc
      · have := co_top (L := plus A B) (by omega)
        rw [co_trim, co_plus, ← co_trim A, ← co_trim B, co_high (by omega), co_high (by omega)] at this
        exact absurd rfl this
    · intro x hxx
      rw [pval_plus' hA hB (hx x hxx), h x hxx, Nat.xor_self]
  have e : co (plus A B) n = 0 := by
    unfold co
    cases hg : (plus A B)[n]? with
    | none => rfl
    | some z => exact hz z (List.mem_of_getElem? hg)
  rw [co_plus] at e
  exact xor_zero_eq e
/-- places that were met are different -/
theorem mst_nodup {xs ys : List Nat} (hX : Byt xs) (hY : Byt ys) {k : Nat} (hk : k ≤ xs.length) {o : List Nat × List Nat} (h : mst xs ys k = some o) : (xs.take k).Nodup := by
  induction k generalizing o with
  | zero => simp
  | succ k ih =>
    rw [mst] at h
    cases hs : mst xs ys k with
    | none => rw [hs] at h; cases h
    | some s =>
      obtain ⟨M, G⟩ := s
      have h1 := ih (by omega) hs
      obtain ⟨_, _, _, _, i5⟩ := mst_meets hX hY k (by omega) M G hs
      rw [hs] at h
      dsimp only at h
      by_cases hv : pval G (xs[k]?.getD 0) = 0
      · rw [if_pos hv] at h; cases h
      · have hkl : k < xs.length := by omega
        rw [List.take_succ_eq_append_getElem hkl, List.nodup_append]
        refine ⟨h1, by simp, ?_⟩
        intro a ha b hb e
        simp at hb
        obtain ⟨j, hj, hje⟩ := List.getElem_of_mem ha
        simp at hj hje
        apply hv
        have := (i5 j (by omega)).2
        rw [List.getElem?_eq_getElem (by omega), Option.getD_some] at this
        rw [List.getElem?_eq_getElem hkl, Option.getD_some, ← hb, ← e, ← hje]
        exact this
/-- A POLYNOMIAL IS TOLD BY AS MANY OF ITS VALUES AS IT HAS FACTORS -/
theorem mst_told {xs ys P M G : List Nat} (hX : Byt xs) (hP : Byt P) (hl : (trim P).length ≤ xs.length) (hy : ys = xs.map (pval P)) (h : mst xs ys xs.length = some (M, G)) : trim M = trim P := by
  subst hy
  have hY : Byt (xs.map (pval P)) := by
    intro y hy
    obtain ⟨x, _, rfl⟩ := List.mem_map.1 hy
    exact pval_lt hP x
  obtain ⟨i1, i2, i3, i4, i5⟩ := mst_meets hX hY _ (Nat.le_refl _) M G h
  have hn := mst_nodup hX hY (Nat.le_refl _) h
  rw [List.take_of_length_le (Nat.le_refl _)] at hn
  refine told xs hX hn i2 hP (by have := trim_len_le M; omega) hl ?_
  intro x hx
  obtain ⟨j, hj, rfl⟩ := List.getElem_of_mem hx
  have := (i5 j hj).1
  rw [List.getElem?_eq_getElem hj, Option.getD_some] at this
  rw [this, List.getElem?_map, List.getElem?_eq_getElem hj]
  rfl
end Go.Proofs.Ytlccdceeppfleab
