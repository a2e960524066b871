/- The plain mathematics of rank: how few rows a matrix can be made through. -/
import Derived.Test.YtjpibfnkchbglabInv2
namespace Go.Proofs.Ytjpibfnkchbglab
open Go.ChangeShapes Go.WideShapes Go.ChangeAt Go.RowKit Go.Shelf
theorem dot_comm {x y : Nat → Nat} : ∀ {t : Nat}, (∀ j, j < t → x j < 256) → (∀ j, j < t → y j < 256) → dot t x y = dot t y x
  | 0, _, _ => rfl
  | t + 1, hx, hy => by rw [dot, dot, dot_comm (fun j hj => hx j (by omega)) (fun j hj => hy j (by omega)), Gf.gm_comm (hx t (by omega)) (hy t (by omega))]
theorem dot_cut {x y : Nat → Nat} {r : Nat} : ∀ {t : Nat}, r ≤ t → (∀ j, r ≤ j → j < t → y j = 0) → dot t x y = dot r x y
  | 0, h, _ => by rw [show r = 0 by omega]
  | t + 1, h, hy => by
    by_cases c : r = t + 1
    · rw [c]
    · rw [dot, hy t (by omega) (by omega), Gf.gm_zeroR, Nat.xor_zero, dot_cut (by omega) (fun j h1 h2 => hy j h1 (by omega))]
/-- what holds while rows are reduced: what A's rows are sums of, and what they make; rows that are nought; columns with one 1 alone -/
structure Rs (n c k r : Nat) (A M : Nat → Nat → Nat) : Prop where
  bm : Bm n c M
  to : ∀ i, i < n → Span n c M (A i)
  of : ∀ i, i < n → Span n c A (M i)
  zero : ∀ x j, r ≤ x → x < n → j < k → M x j = 0
  piv : ∃ p : Nat → Nat, ∀ m, m < r → p m < k ∧ ∀ x, x < n → M x (p m) = uf x m
  le : r ≤ n
theorem span_swp {n c r i : Nat} {M : Nat → Nat → Nat} (hb : Bm n c M) (hr : r < n) (hi : i < n) {x : Nat} (hx : x < n) : Span n c M (swp r i M x) := by
  unfold swp
  by_cases e1 : x = r
  · rw [if_pos e1]; exact span_row hb hi
  · rw [if_neg e1]
    by_cases e2 : x = i
    · rw [if_pos e2]; exact span_row hb hr
    · rw [if_neg e2]; exact span_row hb hx
theorem swp_swp {r i : Nat} (M : Nat → Nat → Nat) : swp r i (swp r i M) = M := by
  funext x
  unfold swp
  by_cases e1 : x = r
  · subst e1
    by_cases e2 : i = x
    · rw [if_pos rfl, if_pos e2, e2]
    · rw [if_pos rfl, if_neg e2, if_pos rfl]
  · rw [if_neg e1]
    by_cases e2 : x = i
    · rw [if_pos e2, if_pos rfl, e2]
    · rw [if_neg e2, if_neg e1, if_neg e2]
theorem rs_step {n c k r i : Nat} {A M : Nat → Nat → Nat} (h : Rs n c k r A M) (hk : k < c) (hr : r < n) (hi : r ≤ i) (hin : i < n) (h0 : M i k ≠ 0) : Rs n c (k + 1) (r + 1) A (elN r k n (led r k (swp r i M))) := by
  have hb := h.bm
  have b1 := hb.swp hr hin
  have b2 := b1.led (k := k) hr
  have b3 := b2.elN (k := k) (t := n) hr
  have n0 : swp r i M r k = M i k := by unfold swp; rw [if_pos rfl]
  have n1 : ∀ x, x < n → Span n c M (swp r i M x) := fun x hx => span_swp hb hr hin hx
  have n2 : ∀ x, x < n → Span n c (swp r i M) (M x) := fun x hx => by
    have := span_swp b1 hr hin hx
    rw [swp_swp] at this
    exact this
  have nz : ∀ x j, r ≤ x → x < n → j < k → swp r i M x j = 0 := by
    intro x j h1 h2 h3
    unfold swp
    by_cases e1 : x = r
    · rw [if_pos e1]; exact h.zero i j hi hin h3
    · rw [if_neg e1]
      by_cases e2 : x = i
      · rw [if_pos e2]; exact h.zero r j (Nat.le_refl _) hr h3
      · rw [if_neg e2]; exact h.zero x j h1 h2 h3
  obtain ⟨p, hp⟩ := h.piv
  have np : ∀ m, m < r → ∀ x, x < n → swp r i M x (p m) = uf x m := by
    intro m hm x hx
    have q := (hp m hm).2
    unfold swp
    by_cases e1 : x = r
    · rw [if_pos e1, q i hin]
      unfold uf
      rw [if_neg (by omega), if_neg (by omega)]
    · rw [if_neg e1]
      by_cases e2 : x = i
      · rw [if_pos e2, q r hr]
        unfold uf
        rw [if_neg (by omega), if_neg (by omega)]
      · rw [if_neg e2]; exact q x hx
  have to := h.to
  have of := h.of
  generalize swp r i M = N at *
  have h0' : N r k ≠ 0 := by rw [n0]; exact h0
  have hkk := b1 r k hr hk
  have hv := Gf.inv_lt (N r k)
  have l3 : ∀ x, x ≠ r → led r k N x = N x := fun x hx => by unfold led; rw [if_neg hx]
  have lr : ∀ j, led r k N r j = Gf.gm (N r j) (Gf.inv (N r k)) := fun j => by unfold led; rw [if_pos rfl]
  have m1 : ∀ x, x < n → Span n c N (led r k N x) := by
    intro x hx
    by_cases e : x = r
    · subst e
      exact span_congr (span_smul b1 (span_row b1 hr) hv) fun j _ => lr j
    · rw [l3 x e]; exact span_row b1 hx
  have m2 : ∀ x, x < n → Span n c (led r k N) (N x) := by
    intro x hx
    by_cases e : x = r
    · subst e
      refine span_congr (span_smul b2 (span_row b2 hr) hkk) fun j hj => ?_
      have hm := b1 x j hr hj
      rw [lr j, Gf.gm_assoc hm hv, Gf.gm_inv hkk h0', Gf.gm_oneR hm]
    · have := span_row b2 hx
      rw [l3 x e] at this
      exact this
  have lz : ∀ j, j < k → led r k N r j = 0 := fun j hj => by rw [lr j, nz r j (Nat.le_refl _) hr hj, Gf.gm_zeroL]
  have lk : led r k N r k = 1 := by rw [lr k, Gf.gm_inv' hkk h0']
  have lp : ∀ m, m < r → led r k N r (p m) = 0 := fun m hm => by
    rw [lr (p m), np m hm r hr]
    unfold uf
    rw [if_neg (by omega), Gf.gm_zeroL]
  generalize led r k N = L at *
  have er : elN r k n L r = L r := elN_self (.inr rfl)
  have ex : ∀ x j, x ≠ r → x < n → elN r k n L x j = L x j ^^^ Gf.gm (L r j) (L x k) := fun x j h1 h2 => by unfold elN; rw [if_pos ⟨h1, h2⟩]
  refine ⟨b3, fun x hx => ?_, fun x hx => ?_, ?_, ⟨fun m => if m = r then k else p m, fun m hm => ?_⟩, by omega⟩
  · refine span_trans (M := M) (fun y hy => span_trans (M := N) (fun z hz => span_trans (M := L) (fun u hu => ?_) (m2 z hz)) (n2 y hy)) (to x hx)
    by_cases e : u = r
    · have := span_row b3 hr
      rw [er] at this
      rw [e]; exact this
    · refine span_congr (span_add (span_row b3 hu) (span_smul b3 (span_row b3 hr) (b2 u k hu hk))) fun j _ => ?_
      rw [ex u j e hu, er, Nat.xor_assoc, Nat.xor_self, Nat.xor_zero]
  · refine span_trans (M := M) of (span_trans (M := N) n1 (span_trans (M := L) m1 ?_))
    by_cases e : x = r
    · rw [e, er]; exact span_row b2 hr
    · exact span_congr (span_add (span_row b2 hx) (span_smul b2 (span_row b2 hr) (b2 x k hx hk))) fun j _ => ex x j e hx
  · intro x j h1 h2 h3
    rw [ex x j (by omega) h2]
    by_cases e : j = k
    · subst e
      rw [lk, Gf.gm_oneL (b2 x j h2 hk), Nat.xor_self]
    · rw [lz j (by omega), Gf.gm_zeroL, Nat.xor_zero, l3 x (by omega)]
      exact nz x j (by omega) h2 (by omega)
  · by_cases e : m = r
    · subst e
      simp only [if_true]
      refine ⟨by omega, fun x hx => ?_⟩
      by_cases d : x = m
      · subst d
        rw [er, lk]
        unfold uf
        rw [if_pos rfl]
      · rw [ex x k d hx, lk, Gf.gm_oneL (b2 x k hx hk), Nat.xor_self]
        unfold uf
        rw [if_neg d]
    · simp only [if_neg e]
      have hm' : m < r := by omega
      have pk := (hp m hm').1
      refine ⟨by omega, fun x hx => ?_⟩
      by_cases d : x = r
      · rw [d, er, lp m hm']
        unfold uf
        rw [if_neg (by omega)]
      · rw [ex x (p m) d hx, lp m hm', Gf.gm_zeroL, Nat.xor_zero, l3 x d]
        exact np m hm' x hx
theorem fnd_zero {M : Nat → Nat → Nat} {k : Nat} : ∀ (f i : Nat), fnd M k f i = none → ∀ j, j < f → M (i + j) k = 0
  | 0, _, _, j, hj => by omega
  | f + 1, i, hn, j, hj => by
    rw [fnd] at hn
    by_cases c : M i k ≠ 0
    · rw [if_pos c] at hn; cases hn
    · rw [if_neg c] at hn
      cases j with
      | zero => rw [Nat.add_zero]; omega
      | succ j =>
        have := fnd_zero f (i + 1) hn j (by omega)
        rw [show i + 1 + j = i + (j + 1) by omega] at this
        exact this
theorem rs_red {n c : Nat} {A : Nat → Nat → Nat} (hA : Bm n c A) : ∀ k, k ≤ c → Rs n c k (red n A k).1 A (red n A k).2
  | 0, _ => ⟨hA, fun i hi => span_row hA hi, fun i hi => span_row hA hi, fun x j _ _ hj => by omega, ⟨fun _ => 0, fun m hm => by have : m < 0 := hm; omega⟩, Nat.zero_le _⟩
  | k + 1, hk => by
    have ih := rs_red hA k (by omega)
    show Rs n c (k + 1) (rstep n k (red n A k)).1 A (rstep n k (red n A k)).2
    unfold rstep
    cases hf : fnd (red n A k).2 k (n - (red n A k).1) (red n A k).1 with
    | none =>
      have hz := fnd_zero _ _ hf
      refine ⟨ih.bm, ih.to, ih.of, fun x j h1 h2 h3 => ?_, ?_, ih.le⟩
      · by_cases e : j = k
        · subst e
          have := hz (x - (red n A j).1) (by dsimp only at h1; omega)
          rw [show (red n A j).1 + (x - (red n A j).1) = x by dsimp only at h1; omega] at this
          exact this
        · exact ih.zero x j h1 h2 (by omega)
      · obtain ⟨p, hp⟩ := ih.piv
        exact ⟨p, fun m hm => ⟨by have := (hp m hm).1; omega, (hp m hm).2⟩⟩
    | some i =>
      obtain ⟨f1, f2, f3⟩ := fnd_lt hf
      exact rs_step ih (by omega) (by omega) f1 (by omega) f3
/-- A is made through s rows -/
def Thru (n c s : Nat) (A : Nat → Nat → Nat) : Prop := ∃ P Q : Nat → Nat → Nat, Bm n s P ∧ Bm s c Q ∧ ∀ i j, i < n → j < c → A i j = dot s (P i) (fun l => Q l j)
/-- Unit of r rows is not made through fewer -/
theorem thru_unit {r s : Nat} (h : Thru r r s uf) : r ≤ s := by
  apply Nat.le_of_not_lt
  intro hs
  obtain ⟨U, V, hU, hV, e⟩ := h
  have hb : Bym (tab r r (fun i j => if i < s then V i j else 0)) := bym_tab fun i j _ hj => by
    split
    · rename_i c; exact hV i j c hj
    · decide
  have ev : ∀ i j, i < r → j < r → ent (tab r r (fun i j => if i < s then V i j else 0)) i j = if i < s then V i j else 0 := fun i j hi hj => ent_tab hi hj
  rcases gauss hb r r (Nat.le_refl _) with ⟨h1, _⟩ | ⟨_, v, ⟨j, hj, hv⟩, hvb, hn⟩
  · obtain ⟨_, i2, _⟩ := inverse_both hb (n := r) (by unfold ivr; omega)
    have := i2 s s hs hs
    rw [dot_term (x' := fun _ => 0) (y' := fun _ => 0) (fun l hl => by rw [ev s l hs hl, if_neg (by omega), Gf.gm_zeroL, Gf.gm_zeroL]), dot_zero] at this
    unfold uf at this
    rw [if_pos rfl] at this
    cases this
  · apply hv
    have e1 : dot r (uf j) v = v j := by rw [dot_uf (fun k _ => hvb k), if_pos hj]
    rw [← e1, dot_congr (x' := fun m => dot s (U j) (fun l => V l m)) (y' := v) (fun m hm => e j m hj hm) (fun _ _ => rfl), dot_assoc (fun l hl => hU j l hj hl) (fun l m hl hm => hV l m hl hm)]
    rw [dot_congr (x' := U j) (y' := fun _ => 0) (fun _ _ => rfl) (fun l hl => ?_), dot_zero]
    rw [← hn l (by omega)]
    exact dot_congr (fun m hm => by rw [ev l m (by omega) hm, if_pos hl]) (fun _ _ => rfl)
/-- what reduce counts: A is made through so many rows, -/
theorem rank_thru {n c : Nat} {A : Nat → Nat → Nat} (hA : Bm n c A) : Thru n c (red n A c).1 A := by
  have h := rs_red hA c (Nat.le_refl _)
  have each : ∀ i, ∃ s : Nat → Nat, i < n → (∀ l, l < n → s l < 256) ∧ ∀ j, j < c → A i j = dot n s (fun l => (red n A c).2 l j) := by
    intro i
    by_cases hi : i < n
    · obtain ⟨s, s1, s2⟩ := h.to i hi
      exact ⟨s, fun _ => ⟨s1, s2⟩⟩
    · exact ⟨fun _ => 0, fun hh => absurd hh hi⟩
  obtain ⟨P, hP⟩ := Classical.axiomOfChoice each
  have le := h.le
  refine ⟨P, (red n A c).2, fun i l hi hl => (hP i hi).1 l (by omega), fun l j hl hj => h.bm l j (by omega) hj, fun i j hi hj => ?_⟩
  rw [(hP i hi).2 j hj, dot_cut le (fun l h1 h2 => h.zero l j h1 h2 hj)]
/-- and through no fewer -/
theorem rank_least {n c s : Nat} {A : Nat → Nat → Nat} (hA : Bm n c A) (ht : Thru n c s A) : (red n A c).1 ≤ s := by
  have h := rs_red hA c (Nat.le_refl _)
  obtain ⟨p, hp⟩ := h.piv
  obtain ⟨P, Q, hP, hQ, e⟩ := ht
  have le := h.le
  have each : ∀ i, ∃ s : Nat → Nat, i < n → (∀ l, l < n → s l < 256) ∧ ∀ j, j < c → (red n A c).2 i j = dot n s (fun l => A l j) := by
    intro i
    by_cases hi : i < n
    · obtain ⟨s, s1, s2⟩ := h.of i hi
      exact ⟨s, fun _ => ⟨s1, s2⟩⟩
    · exact ⟨fun _ => 0, fun hh => absurd hh hi⟩
  obtain ⟨T, hT⟩ := Classical.axiomOfChoice each
  refine thru_unit ⟨fun l a => dot n (T l) (fun i => P i a), fun a m => Q a (p m), fun l a hl _ => dot_lt fun i hi => (hT l (by omega)).1 i hi, fun a m ha hm => hQ a (p m) ha (hp m hm).1, fun l m hl hm => ?_⟩
  have hln : l < n := by omega
  rw [← (hp m hm).2 l hln, (hT l hln).2 (p m) (hp m hm).1]
  rw [dot_congr (x' := T l) (y' := fun i => dot s (P i) (fun a => Q a (p m))) (fun _ _ => rfl) (fun i hi => e i (p m) hi (hp m hm).1)]
  exact (dot_assoc (fun i hi => (hT l hln).1 i hi) (fun i a hi ha => hP i a hi ha)).symm
theorem rank_eq_of {n c : Nat} {f g : Nat → Nat → Nat} (hf : Bm n c f) (h : ∀ i j, i < n → j < c → f i j = g i j) : (red n f c).1 = (red n g c).1 := by
  have hg : Bm n c g := fun i j hi hj => by rw [← h i j hi hj]; exact hf i j hi hj
  apply Nat.le_antisymm
  · refine rank_least hf ?_
    obtain ⟨P, Q, a, b, e⟩ := rank_thru hg
    exact ⟨P, Q, a, b, fun i j hi hj => (h i j hi hj).trans (e i j hi hj)⟩
  · refine rank_least hg ?_
    obtain ⟨P, Q, a, b, e⟩ := rank_thru hf
    exact ⟨P, Q, a, b, fun i j hi hj => (h i j hi hj).symm.trans (e i j hi hj)⟩
/-- what Rank counts -/
def rk (A : List (List Nat)) : Nat := (red A.length (ent A) (A[0]?.getD []).length).1
theorem rk_of {A : List (List Nat)} {n c : Nat} (rA : Rect A n c) : rk A = (red n (ent A) c).1 := by
  have e := rect_uniq rA
  unfold rk
  rw [e.1, e.2]
theorem rk_tab {n c : Nat} {f : Nat → Nat → Nat} (h1 : 1 ≤ n) (h2 : n ≤ 16) (h3 : 1 ≤ c) (h4 : c ≤ 16) (hf : Bm n c f) : rk (tab n c f) = (red n f c).1 := by
  rw [rk_of (tab_rect f h1 h2 h3 h4)]
  exact rank_eq_of (fun i j hi hj => by rw [ent_tab hi hj]; exact hf i j hi hj) (fun i j hi hj => ent_tab hi hj)
/-- its rank is that of its columns as rows -/
theorem rank_turn {n c : Nat} {f : Nat → Nat → Nat} (hf : Bm n c f) : (red c (fun i j => f j i) n).1 = (red n f c).1 := by
  have hg : Bm c n (fun i j => f j i) := fun i j hi hj => hf j i hj hi
  have key : ∀ {n c : Nat} {f : Nat → Nat → Nat}, Bm n c f → (red c (fun i j => f j i) n).1 ≤ (red n f c).1 := by
    intro n c f hf
    refine rank_least (fun i j hi hj => hf j i hj hi) ?_
    obtain ⟨P, Q, a, b, e⟩ := rank_thru hf
    exact ⟨fun j l => Q l j, fun l i => P i l, fun j l hj hl => b l j hl hj, fun l i hl hi => a i l hi hl, fun j i hj hi => by
      dsimp only
      rw [e i j hi hj]
      exact dot_comm (fun l hl => a i l hi hl) (fun l hl => b l j hl hj)⟩
  exact Nat.le_antisymm (key hf) (key hg)
theorem rank_cols {n c : Nat} {f : Nat → Nat → Nat} (hf : Bm n c f) : (red n f c).1 ≤ c :=
  rank_least hf ⟨f, uf, hf, fun l j _ _ => uf_lt l j, fun i j hi hj => by rw [dot_fu (fun l hl => hf i l hi hl), if_pos hj]⟩
theorem rank_rows {n c : Nat} {f : Nat → Nat → Nat} (hf : Bm n c f) : (red n f c).1 ≤ n := (red_ok hf c).1
/-- that of a product is no greater than either one's -/
theorem rank_mul {n t c : Nat} {a b : Nat → Nat → Nat} (ha : Bm n t a) (hb : Bm t c b) : (red n (fun i j => dot t (a i) (fun l => b l j)) c).1 ≤ (red n a t).1 ∧ (red n (fun i j => dot t (a i) (fun l => b l j)) c).1 ≤ (red t b c).1 := by
  have hp : Bm n c (fun i j => dot t (a i) (fun l => b l j)) := fun i j hi _ => dot_lt fun l hl => ha i l hi hl
  refine ⟨rank_least hp ?_, rank_least hp ?_⟩
  · obtain ⟨P, Q, p, q, e⟩ := rank_thru ha
    refine ⟨P, fun l j => dot t (Q l) (fun m => b m j), p, fun l j hl _ => dot_lt fun m hm => q l m hl hm, fun i j hi hj => ?_⟩
    show dot t (a i) (fun m => b m j) = _
    rw [dot_congr (x' := fun m => dot (red n a t).1 (P i) (fun l => Q l m)) (y' := fun m => b m j) (fun m hm => e i m hi hm) (fun _ _ => rfl)]
    exact dot_assoc (fun l hl => p i l hi hl) (fun l m hl hm => q l m hl hm)
  · obtain ⟨P, Q, p, q, e⟩ := rank_thru hb
    refine ⟨fun i l => dot t (a i) (fun m => P m l), Q, fun i l hi _ => dot_lt fun m hm => ha i m hi hm, q, fun i j hi hj => ?_⟩
    show dot t (a i) (fun m => b m j) = _
    rw [dot_congr (x' := a i) (y' := fun m => dot (red t b c).1 (P m) (fun l => Q l j)) (fun _ _ => rfl) (fun m hm => e m j hm hj)]
    exact (dot_assoc (fun m hm => ha i m hi hm) (fun m l hm hl => p m l hm hl)).symm
/-- A MATRIX HAS AN INVERSE, JUST IF ITS RANK IS ALL ITS ROWS -/
theorem rank_inv {A : List (List Nat)} {n : Nat} (hA : Bym A) (rA : Rect A n n) : ive A = 0 ↔ rk A = n := by
  have e := rect_uniq rA
  have hb : Bm n n (wf A n) := fun i j hi hj => wf_bm hA n i j hi (by omega)
  have e1 : ivr A n = rk A := by
    rw [rk_of rA]
    exact rank_eq_of hb (fun i j _ hj => wf_left hj)
  have le : rk A ≤ n := by rw [← e1]; exact rank_rows hb
  have e2 : ive A = if rk A < n then 5 else 0 := by
    unfold ive
    rw [rect_chk rA, e.1, e.2, e1, if_neg (by decide), if_neg (by simp)]
  rw [e2]
  by_cases c : rk A < n
  · rw [if_pos c]
    constructor
    · intro h; cases h
    · intro h; omega
  · rw [if_neg c]
    constructor
    · intro _; omega
    · intro _; rfl
end Go.Proofs.Ytjpibfnkchbglab
