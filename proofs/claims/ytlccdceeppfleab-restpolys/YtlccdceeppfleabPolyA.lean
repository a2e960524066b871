/- The plain mathematics of polynomials over the field, as lists: values of products and sums, and that what Meet makes has the values that it was made of. -/
import Derived.Test.YtlccdceeppfleabRow
namespace Go.Proofs.Ytlccdceeppfleab
/-- all factors are bytes -/
def Byt (L : List Nat) : Prop := ∀ x ∈ L, x < 256
theorem Byt.tail {a : Nat} {L : List Nat} (h : Byt (a :: L)) : Byt L := fun x hx => h x (by simp [hx])
theorem Byt.head {a : Nat} {L : List Nat} (h : Byt (a :: L)) : a < 256 := h a (by simp)
theorem pval_cons (a : Nat) (L : List Nat) (x : Nat) : pval (a :: L) x = Gf.gm (pval L x) x ^^^ a := rfl
theorem pval_nil (x : Nat) : pval [] x = 0 := rfl
/-- x times itself -/
def px (x : Nat) : Nat → Nat
  | 0 => 1
  | n + 1 => Gf.gm (px x n) x
theorem px_lt {x : Nat} (hx : x < 256) : ∀ n, px x n < 256
  | 0 => by show (1 : Nat) < 256; decide
  | n + 1 => Gf.gm_lt (px_lt hx n)
theorem gm_right {a b c : Nat} (ha : a < 256) (hb : b < 256) (hc : c < 256) : Gf.gm (Gf.gm a b) c = Gf.gm (Gf.gm a c) b := by
  rw [Gf.gm_assoc ha hb, Gf.gm_comm hb hc, ← Gf.gm_assoc ha hc]
theorem pval_zeros {Z : List Nat} (h : ∀ z ∈ Z, z = 0) (x : Nat) : pval Z x = 0 := by
  induction Z with
  | nil => rfl
  | cons a r ih => rw [pval_cons, ih (fun z hz => h z (by simp [hz])), Gf.gm_zeroL, h a (by simp)]; rfl
theorem pval_append_zeros (L : List Nat) {Z : List Nat} (h : ∀ z ∈ Z, z = 0) (x : Nat) : pval (L ++ Z) x = pval L x := by
  induction L with
  | nil => exact pval_zeros h x
  | cons a r ih => rw [List.cons_append, pval_cons, ih, pval_cons]
theorem trim_split (L : List Nat) : ∃ Z, L = trim L ++ Z ∧ ∀ z ∈ Z, z = 0 := by
  refine ⟨(L.reverse.takeWhile (fun x => x == 0)).reverse, ?_, ?_⟩
  · unfold trim
    rw [← List.reverse_append, List.takeWhile_append_dropWhile, List.reverse_reverse]
  · intro z hz
    rw [List.mem_reverse] at hz
    have h := List.all_takeWhile (p := fun x : Nat => x == 0) (l := L.reverse)
    rw [List.all_eq_true] at h
    have := h z hz
    simpa using this
theorem pval_trim (L : List Nat) (x : Nat) : pval (trim L) x = pval L x := by
  obtain ⟨Z, h1, h2⟩ := trim_split L
  conv => rhs; rw [h1]
  rw [pval_append_zeros _ h2]
theorem pval_snoc {L : List Nat} {a x : Nat} (hL : Byt L) (ha : a < 256) (hx : x < 256) : pval (L ++ [a]) x = pval L x ^^^ Gf.gm a (px x L.length) := by
  induction L with
  | nil => rw [List.nil_append, pval_cons, pval_nil, Gf.gm_zeroL]; simp [px, Gf.gm_oneR ha]
  | cons b r ih =>
    have h1 := pval_lt hL.tail x
    have h2 : Gf.gm a (px x r.length) < 256 := Gf.gm_lt ha
    rw [List.cons_append, pval_cons, ih hL.tail, Gf.gm_addL h1 h2, pval_cons, List.length_cons, px, Gf.gm_assoc ha (px_lt hx _), Nat.xor_assoc, Nat.xor_assoc, Nat.xor_comm (Gf.gm a _) b]
theorem addAt_nil (R : List Nat) (o f : Nat) : addAt R o [] f = R := by
  apply List.ext_getElem (by simp [addAt])
  intro i h1 h2
  simp only [addAt, List.getElem_map, List.getElem_range, List.length_nil]
  rw [if_neg (by omega), List.getElem?_eq_getElem h2]
  rfl
theorem addAt_cons (a q : Nat) (R Q : List Nat) (f : Nat) : addAt (a :: R) 0 (q :: Q) f = (a ^^^ Gf.gm q f) :: addAt R 0 Q f := by
  apply List.ext_getElem (by simp [addAt])
  intro i h1 h2
  cases i with
  | zero => simp [addAt]
  | succ i => simp [addAt]
theorem addAt_succ (a : Nat) (R Q : List Nat) (o f : Nat) : addAt (a :: R) (o + 1) Q f = a :: addAt R o Q f := by
  apply List.ext_getElem (by simp [addAt])
  intro i h1 h2
  cases i with
  | zero => simp [addAt]
  | succ i =>
    simp only [addAt, List.getElem_map, List.getElem_range, List.getElem_cons_succ, List.getElem?_cons_succ, Nat.add_sub_add_right]
    by_cases c : o ≤ i ∧ i < o + Q.length
    · rw [if_pos c, if_pos (by omega)]
    · rw [if_neg c, if_neg (by omega)]
theorem pval_addAt0 {R Q : List Nat} {f x : Nat} (hR : Byt R) (hQ : Byt Q) (hf : f < 256) (hx : x < 256) (hl : Q.length ≤ R.length) : pval (addAt R 0 Q f) x = pval R x ^^^ Gf.gm (pval Q x) f := by
  induction Q generalizing R with
  | nil => rw [addAt_nil, pval_nil, Gf.gm_zeroL, Nat.xor_zero]
  | cons q Q ih =>
    cases R with
    | nil => simp at hl
    | cons a R =>
      have h1 := pval_lt hR.tail x
      have h2 := pval_lt hQ.tail x
      have h3 : Gf.gm (pval Q x) f < 256 := Gf.gm_lt h2
      have h4 : Gf.gm (pval Q x) x < 256 := Gf.gm_lt h2
      rw [addAt_cons, pval_cons, ih hR.tail hQ.tail (by simpa using hl), Gf.gm_addL h1 h3, pval_cons, pval_cons, Gf.gm_addL h4 hQ.head, gm_right h2 hf hx, Gf.xor_swap]
theorem pval_addAt {R Q : List Nat} {f x : Nat} (hR : Byt R) (hQ : Byt Q) (hf : f < 256) (hx : x < 256) : ∀ (o : Nat), o + Q.length ≤ R.length → pval (addAt R o Q f) x = pval R x ^^^ Gf.gm (Gf.gm (pval Q x) f) (px x o) := by
  intro o
  induction o generalizing R with
  | zero => intro hl; rw [pval_addAt0 hR hQ hf hx (by omega)]; show _ = _ ^^^ Gf.gm _ 1; rw [Gf.gm_oneR (Gf.gm_lt (pval_lt hQ x))]
  | succ o ih =>
    intro hl
    cases R with
    | nil => simp at hl
    | cons a R =>
      have h1 := pval_lt hR.tail x
      have h2 : Gf.gm (pval Q x) f < 256 := Gf.gm_lt (pval_lt hQ x)
      have h3 : Gf.gm (Gf.gm (pval Q x) f) (px x o) < 256 := Gf.gm_lt h2
      rw [addAt_succ, pval_cons, ih hR.tail (by simp at hl; omega), Gf.gm_addL h1 h3, pval_cons, px, Gf.gm_assoc h2 (px_lt hx o), Nat.xor_assoc, Nat.xor_assoc, Nat.xor_comm (Gf.gm (Gf.gm (pval Q x) f) _) a]
theorem byt_take {P : List Nat} (h : Byt P) (k : Nat) : Byt (P.take k) := fun x hx => h x (List.mem_of_mem_take hx)
theorem pval_prow {P Q : List Nat} {x : Nat} (hP : Byt P) (hQ : Byt Q) (hx : x < 256) : ∀ k, k ≤ P.length → pval (prow P Q k) x = Gf.gm (pval Q x) (pval (P.take k) x)
  | 0, _ => by
    rw [List.take_zero, pval_nil, Gf.gm_zeroR]
    exact pval_zeros (by intro z hz; exact List.eq_of_mem_replicate hz) x
  | k + 1, hk => by
    have hk' : k < P.length := by omega
    have h1 : P[k]?.getD 0 = P[k] := by rw [List.getElem?_eq_getElem hk']; rfl
    have h2 : P[k] < 256 := hP _ (List.getElem_mem _)
    have h3 := pval_lt hQ x
    rw [prow, pval_addAt (prow_lt hQ k) hQ (by rw [h1]; exact h2) hx k (by rw [prow_len]; omega), pval_prow hP hQ hx k (by omega), List.take_succ_eq_append_getElem hk', pval_snoc (byt_take hP k) h2 hx, Gf.gm_addR, h1, List.length_take, Nat.min_eq_left (by omega), Gf.gm_assoc h3 h2]
theorem pval_pm {P Q : List Nat} {x : Nat} (hP : Byt P) (hQ : Byt Q) (hx : x < 256) : pval (pm P Q) x = Gf.gm (pval P x) (pval Q x) := by
  unfold pm
  rw [pval_trim, pval_prow hP hQ hx _ (Nat.le_refl _), List.take_of_length_le (Nat.le_refl _), Gf.gm_comm (pval_lt hQ x) (pval_lt hP x)]
/-- WHAT MEETS VALUES HAS THEM -/
theorem mst_meets {xs ys : List Nat} (hX : Byt xs) (hY : Byt ys) : ∀ k, k ≤ xs.length → ∀ M G, mst xs ys k = some (M, G) →
    M.length = xs.length ∧ Byt M ∧ Byt G ∧ G.length ≤ k + 1 ∧ ∀ j, j < k → pval M (xs[j]?.getD 0) = ys[j]?.getD 0 ∧ pval G (xs[j]?.getD 0) = 0
  | 0, _, M, G, h => by
    simp only [mst, Option.some.injEq, Prod.mk.injEq] at h
    obtain ⟨rfl, rfl⟩ := h
    exact ⟨by simp, by intro x hx; simp at hx; omega, by intro x hx; simp at hx; omega, by simp, by intro j hj; omega⟩
  | k + 1, hk, M', G', h => by
    rw [mst] at h
    cases hs : mst xs ys k with
    | none => rw [hs] at h; cases h
    | some s =>
      obtain ⟨M, G⟩ := s
      obtain ⟨i1, i2, i3, i4, i5⟩ := mst_meets hX hY k (by omega) M G hs
      rw [hs] at h
      dsimp only at h
      have hx := getD_lt hX k
      have hy := getD_lt hY k
      generalize hxe : xs[k]?.getD 0 = x at *
      generalize hye : ys[k]?.getD 0 = y at *
      by_cases hv : pval G x = 0
      · rw [if_pos hv] at h; cases h
      · rw [if_neg hv] at h
        simp only [Option.some.injEq, Prod.mk.injEq] at h
        obtain ⟨rfl, rfl⟩ := h
        have hu := pval_lt i2 x
        have hv2 := pval_lt i3 x
        have hyu := Gf.xlt hy hu
        have hf : Gf.gm (y ^^^ pval M x) (Gf.inv (pval G x)) < 256 := Gf.gm_lt hyu
        have hb2 : Byt [x, 1] := by intro z hz; simp at hz; omega
        refine ⟨by rw [addAt_len]; exact i1, addAt_lt i2 i3 _ _, pm_lt hb2, by have := pm_len G x; omega, ?_⟩
        intro j hj
        have hxj := getD_lt hX j
        rw [pval_addAt0 i2 i3 hf hxj (by omega), pval_pm i3 hb2 hxj]
        by_cases e : j = k
        · subst e
          rw [hxe, hye]
          refine ⟨?_, ?_⟩
          · rw [Gf.gm_comm hv2 hf, Gf.gm_assoc hyu (Gf.inv_lt _), Gf.gm_inv hv2 hv, Gf.gm_oneR hyu, Nat.xor_comm y, ← Nat.xor_assoc, Nat.xor_self, Nat.zero_xor]
          · have e1 : pval [x, 1] x = 0 := by
              rw [pval_cons, pval_cons, pval_nil, Gf.gm_zeroL, Nat.zero_xor, Gf.gm_oneL hx, Nat.xor_self]
            rw [e1, Gf.gm_zeroR]
        · obtain ⟨a1, a2⟩ := i5 j (by omega)
          rw [a1, a2, Gf.gm_zeroL, Gf.gm_zeroL, Nat.xor_zero]
          exact ⟨rfl, rfl⟩
theorem trim_trim (L : List Nat) : trim (trim L) = trim L := by
  by_cases h : trim L = []
  · rw [h]; rfl
  · have h0 : 0 < (trim L).length := by cases hh : trim L with | nil => exact absurd hh h | cons a r => simp
    have h1 := trim_last h0
    have hl : (trim L).length - 1 < (trim L).length := by omega
    rw [List.getElem?_eq_getElem hl, Option.getD_some] at h1
    have e : trim L = (trim L).take ((trim L).length - 1) ++ [(trim L)[(trim L).length - 1]] := by
      rw [← List.take_succ_eq_append_getElem hl, List.take_of_length_le (by omega)]
    conv => lhs; rw [e]
    rw [trim_snoc, if_neg h1, ← e]
end Go.Proofs.Ytlccdceeppfleab
