/- The plain mathematics of reduce: what it makes of a matrix with Unit at its right. -/
import Derived.Test.YtjpibfnkchbglabRing
namespace Go.Proofs.Ytjpibfnkchbglab
open Go.ChangeShapes Go.WideShapes Go.ChangeAt Go.RowKit Go.Shelf
theorem dot_term {x x' y y' : Nat → Nat} : ∀ {t : Nat}, (∀ j, j < t → Gf.gm (x j) (y j) = Gf.gm (x' j) (y' j)) → dot t x y = dot t x' y'
  | 0, _ => rfl
  | t + 1, h => by rw [dot, dot, dot_term (fun j hj => h j (by omega)), h t (by omega)]
theorem dot_addL {p q y : Nat → Nat} : ∀ {t : Nat}, (∀ j, j < t → p j < 256) → (∀ j, j < t → q j < 256) → dot t (fun l => p l ^^^ q l) y = dot t p y ^^^ dot t q y
  | 0, _, _ => by show (0 : Nat) = 0 ^^^ 0; decide
  | t + 1, hp, hq => by rw [dot, dot, dot, dot_addL (fun j hj => hp j (by omega)) (fun j hj => hq j (by omega)), Gf.gm_addL (hp t (by omega)) (hq t (by omega)), Gf.xor_swap]
theorem dot_smulL {x y : Nat → Nat} {s : Nat} (hs : s < 256) : ∀ {t : Nat}, (∀ j, j < t → x j < 256) → (∀ j, j < t → y j < 256) → dot t (fun l => Gf.gm (x l) s) y = Gf.gm (dot t x y) s
  | 0, _, _ => (Gf.gm_zeroL s).symm
  | t + 1, hx, hy => by
    have h1 := hx t (by omega)
    have h2 := hy t (by omega)
    rw [dot, dot, dot_smulL hs (fun j hj => hx j (by omega)) (fun j hj => hy j (by omega)), Gf.gm_addL (dot_lt fun j hj => hx j (by omega)) (Gf.gm_lt h1)]
    congr 1
    rw [Gf.gm_assoc h1 hs, Gf.gm_comm hs h2, ← Gf.gm_assoc h1 h2]
theorem dot_delta {r c : Nat} {y : Nat → Nat} : ∀ {t : Nat}, dot t (fun l => if l = r then c else 0) y = if r < t then Gf.gm c (y r) else 0
  | 0 => by rw [if_neg (by omega)]; rfl
  | t + 1 => by
    rw [dot, dot_delta]
    by_cases e : t = r
    · subst e
      rw [if_neg (by omega), if_pos rfl, if_pos (by omega), Nat.zero_xor]
    · rw [if_neg e, Gf.gm_zeroL, Nat.xor_zero]
      by_cases d : r < t
      · rw [if_pos d, if_pos (by omega)]
      · rw [if_neg d, if_neg (by omega)]
/-- v is a sum of multiples of M's rows -/
def Span (n m : Nat) (M : Nat → Nat → Nat) (v : Nat → Nat) : Prop := ∃ s : Nat → Nat, (∀ l, l < n → s l < 256) ∧ ∀ j, j < m → v j = dot n s (fun l => M l j)
theorem span_row {n m : Nat} {M : Nat → Nat → Nat} (hM : Bm n m M) {x : Nat} (hx : x < n) : Span n m M (M x) :=
  ⟨uf x, fun l _ => by unfold uf; split <;> decide, fun j hj => by rw [dot_uf (fun l hl => hM l j hl hj), if_pos hx]⟩
theorem span_congr {n m : Nat} {M : Nat → Nat → Nat} {u v : Nat → Nat} (h : Span n m M u) (e : ∀ j, j < m → v j = u j) : Span n m M v := by
  obtain ⟨s, h1, h2⟩ := h
  exact ⟨s, h1, fun j hj => (e j hj).trans (h2 j hj)⟩
theorem span_add {n m : Nat} {M : Nat → Nat → Nat} {u v : Nat → Nat} (h : Span n m M u) (k : Span n m M v) : Span n m M (fun j => u j ^^^ v j) := by
  obtain ⟨s, h1, h2⟩ := h
  obtain ⟨t, k1, k2⟩ := k
  exact ⟨fun l => s l ^^^ t l, fun l hl => Gf.xlt (h1 l hl) (k1 l hl), fun j hj => by dsimp only; rw [dot_addL h1 k1, h2 j hj, k2 j hj]⟩
theorem span_smul {n m : Nat} {M : Nat → Nat → Nat} (hM : Bm n m M) {u : Nat → Nat} (h : Span n m M u) {c : Nat} (hc : c < 256) : Span n m M (fun j => Gf.gm (u j) c) := by
  obtain ⟨s, h1, h2⟩ := h
  exact ⟨fun l => Gf.gm (s l) c, fun l hl => Gf.gm_lt (h1 l hl), fun j hj => by dsimp only; rw [dot_smulL hc h1 (fun l hl => hM l j hl hj), h2 j hj]⟩
theorem span_trans {n m : Nat} {M N : Nat → Nat → Nat} (h : ∀ x, x < n → Span n m N (M x)) {v : Nat → Nat} (hv : Span n m M v) : Span n m N v := by
  obtain ⟨s, h1, h2⟩ := hv
  have each : ∀ x, ∃ c : Nat → Nat, x < n → (∀ l, l < n → c l < 256) ∧ ∀ j, j < m → M x j = dot n c (fun l => N l j) := by
    intro x
    by_cases hx : x < n
    · obtain ⟨c, c1, c2⟩ := h x hx
      exact ⟨c, fun _ => ⟨c1, c2⟩⟩
    · exact ⟨fun _ => 0, fun hh => absurd hh hx⟩
  obtain ⟨c, hc⟩ := Classical.axiomOfChoice each
  refine ⟨fun l => dot n s (fun x => c x l), fun l _ => dot_lt h1, fun j hj => ?_⟩
  rw [h2 j hj, dot_assoc h1 (fun x l hx hl => (hc x hx).1 l hl)]
  exact dot_congr (fun _ _ => rfl) (fun x hx => (hc x hx).2 j hj)
/-- the left half is the right half times A -/
def Lr (n : Nat) (a M : Nat → Nat → Nat) : Prop := ∀ i j, i < n → j < n → M i j = dot n (fun l => M i (n + l)) (fun l => a l j)
/-- what holds of a matrix all the while -/
structure Gs (n : Nat) (a W M : Nat → Nat → Nat) : Prop where
  bm : Bm n (2 * n) M
  lr : Lr n a M
  sp : ∀ i, i < n → Span n (2 * n) M (W i)
theorem gs_swp {n : Nat} {a W M : Nat → Nat → Nat} (h : Gs n a W M) {r i : Nat} (hr : r < n) (hi : i < n) : Gs n a W (swp r i M) := by
  have hb := h.bm.swp hr hi
  refine ⟨hb, ?_, fun x hx => span_trans (M := M) (fun y hy => ?_) (h.sp x hx)⟩
  · intro x j hx hj
    have key : ∀ y, y < n → M y j = dot n (fun l => M y (n + l)) (fun l => a l j) := fun y hy => h.lr y j hy hj
    unfold swp
    by_cases e1 : x = r
    · rw [if_pos e1]; exact key i hi
    · rw [if_neg e1]
      by_cases e2 : x = i
      · rw [if_pos e2]; exact key r hr
      · rw [if_neg e2]; exact key x hx
  · have hrow : ∀ z, z < n → Span n (2 * n) (swp r i M) (swp r i M z) := fun z hz => span_row hb hz
    by_cases e1 : y = r
    · have := hrow i hi
      have e : swp r i M i = M y := by
        unfold swp
        by_cases e2 : i = r
        · rw [if_pos e2, e1, e2]
        · rw [if_neg e2, if_pos rfl, e1]
      rw [e] at this
      exact this
    · by_cases e2 : y = i
      · have := hrow r hr
        have e : swp r i M r = M y := by unfold swp; rw [if_pos rfl, e2]
        rw [e] at this
        exact this
      · have := hrow y hy
        have e : swp r i M y = M y := by unfold swp; rw [if_neg e1, if_neg e2]
        rw [e] at this
        exact this
theorem gs_led {n : Nat} {a W M : Nat → Nat → Nat} (h : Gs n a W M) (ha : Bm n n a) {r k : Nat} (hr : r < n) (hk : k < n) (h0 : M r k ≠ 0) : Gs n a W (led r k M) := by
  have hb := h.bm.led (k := k) hr
  have hx := h.bm r k hr (by omega)
  have hv := Gf.inv_lt (M r k)
  refine ⟨hb, ?_, fun x hx => span_trans (M := M) (fun y hy => ?_) (h.sp x hx)⟩
  · intro x j hxn hj
    unfold led
    by_cases e : x = r
    · rw [if_pos e]
      rw [dot_smulL hv (fun l hl => h.bm r (n + l) hr (by omega)) (fun l hl => ha l j hl hj), h.lr r j hr hj]
    · rw [if_neg e]
      exact h.lr x j hxn hj
  · by_cases e : y = r
    · subst e
      have := span_smul hb (span_row hb hr) hx
      refine span_congr this fun j hj => ?_
      have hm := h.bm y j hr hj
      unfold led
      rw [if_pos rfl, Gf.gm_assoc hm hv, Gf.gm_inv hx h0, Gf.gm_oneR hm]
    · have := span_row hb hy
      have q : led r k M y = M y := by unfold led; rw [if_neg e]
      rw [q] at this
      exact this
theorem gs_elN {n : Nat} {a W M : Nat → Nat → Nat} (h : Gs n a W M) (ha : Bm n n a) {r k : Nat} (hr : r < n) (hk : k < n) : Gs n a W (elN r k n M) := by
  have hb := h.bm.elN (k := k) (t := n) hr
  refine ⟨hb, ?_, fun x hx => span_trans (M := M) (fun y hy => ?_) (h.sp x hx)⟩
  · intro x j hxn hj
    unfold elN
    by_cases e : x ≠ r ∧ x < n
    · have hf := h.bm x k hxn (by omega)
      rw [if_pos e]
      rw [dot_addL (fun l hl => h.bm x (n + l) hxn (by omega)) (fun l hl => Gf.gm_lt (h.bm r (n + l) hr (by omega))), dot_smulL hf (fun l hl => h.bm r (n + l) hr (by omega)) (fun l hl => ha l j hl hj), h.lr x j hxn hj, h.lr r j hr hj]
    · rw [if_neg e]
      exact h.lr x j hxn hj
  · have er : elN r k n M r = M r := elN_self (.inr rfl)
    by_cases e : y = r
    · have := span_row hb hr
      rw [er] at this
      rw [e]
      exact this
    · have hf := h.bm y k hy (by omega)
      have h1 := span_row hb hy
      have h2 := span_smul hb (span_row hb hr) hf
      refine span_congr (span_add h1 h2) fun j hj => ?_
      rw [er]
      unfold elN
      rw [if_pos ⟨e, hy⟩, Nat.xor_assoc, Nat.xor_self, Nat.xor_zero]
theorem wf_left {A : List (List Nat)} {n i k : Nat} (h : k < n) : wf A n i k = ent A i k := by unfold wf; rw [if_pos h]
theorem wf_right {A : List (List Nat)} {n i k : Nat} : wf A n i (n + k) = uf i k := by unfold wf; rw [if_neg (by omega), Nat.add_sub_cancel_left]
theorem uf_lt (i k : Nat) : uf i k < 256 := by unfold uf; split <;> decide
theorem wf_bm {A : List (List Nat)} (hA : Bym A) (n : Nat) : Bm n (2 * n) (wf A n) := by
  intro i j _ _
  unfold wf
  split
  · exact hA i j
  · exact uf_lt _ _
theorem gs_red {A : List (List Nat)} (hA : Bym A) (n : Nat) : ∀ k, k ≤ n → Gs n (ent A) (wf A n) (red n (wf A n) k).2
  | 0, _ => by
    refine ⟨wf_bm hA n, fun i j hi hj => ?_, fun i hi => span_row (wf_bm hA n) hi⟩
    show wf A n i j = dot n (fun l => wf A n i (n + l)) (fun l => ent A l j)
    rw [wf_left hj, dot_congr (x' := uf i) (y' := fun l => ent A l j) (fun l _ => wf_right) (fun _ _ => rfl), dot_uf (fun l _ => hA l j), if_pos hi]
  | k + 1, hk => by
    have ih := gs_red hA n k (by omega)
    have ok := (red_ok (wf_bm hA n) k).1
    show Gs n (ent A) (wf A n) (rstep n k (red n (wf A n) k)).2
    unfold rstep
    cases hf : fnd (red n (wf A n) k).2 k (n - (red n (wf A n) k).1) (red n (wf A n) k).1 with
    | none => exact ih
    | some i =>
      obtain ⟨f1, f2, f3⟩ := fnd_lt hf
      have hr : (red n (wf A n) k).1 < n := by omega
      have ha : Bm n n (ent A) := fun x y _ _ => hA x y
      exact gs_elN (gs_led (gs_swp ih hr (by omega)) ha hr (by omega) (by unfold swp; rw [if_pos rfl]; exact f3)) ha hr (by omega)
/-- something that A makes nought of -/
def Null (n : Nat) (a : Nat → Nat → Nat) : Prop := ∃ v : Nat → Nat, (∃ j, j < n ∧ v j ≠ 0) ∧ (∀ j, v j < 256) ∧ ∀ i, i < n → dot n (a i) v = 0
theorem null_of {n k : Nat} {a W M : Nat → Nat → Nat} (h : Gs n a W M) (hW : ∀ i j, i < n → j < n → W i j = a i j) (hk : k < n) (hd : ∀ i j, i < n → j < k → M i j = uf i j) (hz : ∀ i, k ≤ i → i < n → M i k = 0) : Null n a := by
  have hb := h.bm
  refine ⟨fun j => (if j < k then M j k else 0) ^^^ uf j k, ⟨k, hk, ?_⟩, fun j => ?_, fun i hi => ?_⟩
  · dsimp only
    rw [if_neg (by omega), Nat.zero_xor]
    unfold uf
    rw [if_pos rfl]
    decide
  · refine Gf.xlt ?_ (uf_lt _ _)
    split
    · exact hb j k (by omega) (by omega)
    · decide
  · obtain ⟨s, s1, s2⟩ := h.sp i hi
    have e1 : dot n (a i) (fun j => (if j < k then M j k else 0) ^^^ uf j k) = dot n (fun j => dot n s (fun l => M l j)) (fun j => (if j < k then M j k else 0) ^^^ uf j k) :=
      dot_congr (fun j hj => by rw [← hW i j hi hj]; exact s2 j (by omega)) (fun _ _ => rfl)
    rw [e1, dot_assoc s1 (fun l j hl hj => hb l j hl (by omega))]
    have e2 : ∀ l, l < n → dot n (M l) (fun j => (if j < k then M j k else 0) ^^^ uf j k) = 0 := by
      intro l hl
      have p1 : dot n (M l) (fun j => if j < k then M j k else 0) = if l < k then M l k else 0 := by
        rw [dot_term (x' := uf l) (y' := fun j => if j < k then M j k else 0) (fun j hj => by
          by_cases c : j < k
          · rw [hd l j hl c]
          · rw [if_neg c, Gf.gm_zeroR, Gf.gm_zeroR]), dot_uf (fun j hj => by
            split
            · exact hb j k (by omega) (by omega)
            · decide), if_pos hl]
      rw [dot_add, p1, dot_fu (fun j hj => hb l j hl (by omega)), if_pos hk]
      by_cases c : l < k
      · rw [if_pos c, Nat.xor_self]
      · rw [if_neg c, hz l (by omega) hl]; rfl
    rw [dot_congr (x' := s) (y' := fun _ => 0) (fun _ _ => rfl) e2, dot_zero]
theorem diag_step {n k i : Nat} {M : Nat → Nat → Nat} (hb : Bm n (2 * n) M) (hk : k < n) (hi : k ≤ i) (hin : i < n) (h0 : M i k ≠ 0) (hd : ∀ x j, x < n → j < k → M x j = uf x j) :
    ∀ x j, x < n → j < k + 1 → elN k k n (led k k (swp k i M)) x j = uf x j := by
  have n1 : ∀ x j, x < n → j < k → swp k i M x j = uf x j := by
    intro x j hx hj
    unfold swp
    by_cases e : x = k
    · rw [if_pos e, hd i j hin hj]
      unfold uf
      rw [if_neg (by omega), if_neg (by omega)]
    · rw [if_neg e]
      by_cases e2 : x = i
      · rw [if_pos e2, hd k j hk hj]
        unfold uf
        rw [if_neg (by omega), if_neg (by omega)]
      · rw [if_neg e2]; exact hd x j hx hj
  have n2 : swp k i M k k = M i k := by unfold swp; rw [if_pos rfl]
  have nb := hb.swp hk hin
  generalize swp k i M = N at *
  have h0' : N k k ≠ 0 := by rw [n2]; exact h0
  have hkk := nb k k hk (by omega)
  have l1 : ∀ j, j < k → led k k N k j = 0 := by
    intro j hj
    unfold led
    rw [if_pos rfl, n1 k j hk hj]
    unfold uf
    rw [if_neg (by omega), Gf.gm_zeroL]
  have l2 : led k k N k k = 1 := by
    unfold led
    rw [if_pos rfl, Gf.gm_inv' hkk h0']
  have l3 : ∀ x, x ≠ k → led k k N x = N x := by
    intro x hx
    unfold led
    rw [if_neg hx]
  have lb := nb.led (k := k) hk
  generalize led k k N = L at *
  intro x j hx hj
  by_cases e : x = k
  · subst e
    rw [elN_self (.inr rfl)]
    by_cases c : j = x
    · subst c
      rw [l2]
      unfold uf
      rw [if_pos rfl]
    · rw [l1 j (by omega)]
      unfold uf
      rw [if_neg (by omega)]
  · unfold elN
    rw [if_pos ⟨e, hx⟩]
    by_cases c : j = k
    · subst c
      rw [l2, Gf.gm_oneL (lb x j hx (by omega)), Nat.xor_self]
      unfold uf
      rw [if_neg e]
    · rw [l1 j (by omega), Gf.gm_zeroL, Nat.xor_zero, l3 x e]
      exact n1 x j hx (by omega)
theorem gauss {A : List (List Nat)} (hA : Bym A) (n : Nat) : ∀ k, k ≤ n → ((red n (wf A n) k).1 = k ∧ ∀ i j, i < n → j < k → (red n (wf A n) k).2 i j = uf i j) ∨ ((red n (wf A n) k).1 < k ∧ Null n (ent A))
  | 0, _ => .inl ⟨rfl, fun i j _ hj => by omega⟩
  | k + 1, hk => by
    have hg := gs_red hA n k (by omega)
    have hs : red n (wf A n) (k + 1) = rstep n k (red n (wf A n) k) := rfl
    rw [hs]
    unfold rstep
    rcases gauss hA n k (by omega) with ⟨h1, h2⟩ | ⟨h1, h2⟩
    · rw [h1]
      cases hf : fnd (red n (wf A n) k).2 k (n - k) k with
      | none =>
        right
        refine ⟨by dsimp only; omega, null_of hg (fun i j _ hj => wf_left hj) (by omega) h2 fun i hi hin => ?_⟩
        have key : ∀ f i, fnd (red n (wf A n) k).2 k f i = none → ∀ j, j < f → (red n (wf A n) k).2 (i + j) k = 0 := by
          intro f
          induction f with
          | zero => intro i _ j hj; omega
          | succ f ih =>
            intro i hn j hj
            rw [fnd] at hn
            by_cases c : (red n (wf A n) k).2 i k ≠ 0
            · rw [if_pos c] at hn; cases hn
            · rw [if_neg c] at hn
              cases j with
              | zero => rw [Nat.add_zero]; omega
              | succ j =>
                have := ih (i + 1) hn j (by omega)
                rw [show i + 1 + j = i + (j + 1) by omega] at this
                exact this
        have := key (n - k) k hf (i - k) (by omega)
        rw [show k + (i - k) = i by omega] at this
        exact this
      | some i =>
        obtain ⟨f1, f2, f3⟩ := fnd_lt hf
        left
        exact ⟨rfl, diag_step hg.bm (by omega) f1 (by omega) f3 h2⟩
    · right
      refine ⟨?_, h2⟩
      cases hf : fnd (red n (wf A n) k).2 k (n - (red n (wf A n) k).1) (red n (wf A n) k).1 with
      | none => dsimp only; omega
      | some i => dsimp only; omega
/-- B times A is Unit -/
def IsInv (n : Nat) (b a : Nat → Nat → Nat) : Prop := ∀ i j, i < n → j < n → dot n (b i) (fun l => a l j) = uf i j
/-- what Inverse makes, where it comes to the end -/
theorem inverse_both {A : List (List Nat)} (hA : Bym A) {n : Nat} (h : ¬ ivr A n < n) : IsInv n (iv A n) (ent A) ∧ IsInv n (ent A) (iv A n) ∧ ∀ i j, i < n → j < n → iv A n i j < 256 := by
  have hg := gs_red hA n n (Nat.le_refl _)
  unfold ivr at h
  rcases gauss hA n n (Nat.le_refl _) with ⟨_, hd⟩ | ⟨h1, _⟩
  · refine ⟨fun i j hi hj => ?_, fun i j hi hj => ?_, fun i j hi hj => hg.bm i (n + j) hi (by omega)⟩
    · rw [← hd i j hi hj]
      exact (hg.lr i j hi hj).symm
    · obtain ⟨s, s1, s2⟩ := hg.sp i hi
      have e1 : ∀ l, l < n → ent A i l = s l := by
        intro l hl
        have := s2 l (by omega)
        rw [wf_left hl, dot_congr (x' := s) (y' := fun x => uf x l) (fun _ _ => rfl) (fun x hx => hd x l hx hl), dot_fu s1, if_pos hl] at this
        exact this
      have e2 := s2 (n + j) (by omega)
      rw [wf_right] at e2
      rw [e2]
      exact dot_congr e1 (fun _ _ => rfl)
  · exact absurd h1 h
/-- whatever has an inverse at its left is inverted -/
theorem inverse_if {A : List (List Nat)} (hA : Bym A) {n : Nat} {b : Nat → Nat → Nat} (hb : Bm n n b) (h : IsInv n b (ent A)) : ¬ ivr A n < n := by
  intro c
  unfold ivr at c
  rcases gauss hA n n (Nat.le_refl _) with ⟨h1, _⟩ | ⟨_, v, ⟨j, hj, hv⟩, hvb, hn⟩
  · omega
  · apply hv
    have e1 : dot n (b j) (fun l => dot n (ent A l) v) = v j := by
      rw [← dot_assoc (fun l hl => hb j l hj hl) (fun l k _ _ => hA l k), dot_congr (x' := uf j) (y' := v) (fun k hk => h j k hj hk) (fun _ _ => rfl), dot_uf (fun k _ => hvb k), if_pos hj]
    rw [← e1, dot_congr (x' := b j) (y' := fun _ => 0) (fun _ _ => rfl) (fun l hl => hn l hl), dot_zero]
/-- there is one alone -/
theorem inverse_one {n : Nat} {a b c : Nat → Nat → Nat} (ha : Bm n n a) (hb : Bm n n b) (hc : Bm n n c) (h1 : IsInv n b a) (h2 : IsInv n a c) : ∀ i j, i < n → j < n → b i j = c i j := by
  intro i j hi hj
  have e1 : dot n (b i) (fun l => dot n (a l) (fun k => c k j)) = b i j := by
    rw [dot_congr (x' := b i) (y' := fun l => uf l j) (fun _ _ => rfl) (fun l hl => h2 l j hl hj), dot_fu (fun l hl => hb i l hi hl), if_pos hj]
  rw [← e1, ← dot_assoc (fun l hl => hb i l hi hl) (fun l k hl hk => ha l k hl hk), dot_congr (x' := uf i) (y' := fun k => c k j) (fun k hk => h1 i k hi hk) (fun _ _ => rfl), dot_uf (fun k hk => hc k j hk hj), if_pos hi]
end Go.Proofs.Ytjpibfnkchbglab
