/- What matrix.Inverse answers of everything, and what an inverse is. -/
import Derived.Test.YtjpibfnkchbglabGauss
namespace Go.Proofs.Ytjpibfnkchbglab
open Go.ChangeShapes Go.WideShapes Go.ChangeAt Go.RowKit Go.Shelf
set_option maxRecDepth 100000 in
set_option maxHeartbeats 2000000 in
theorem inverse_chk (va : Value) (A : List (List Nat)) (w : World) (hA : Mx w.heap.size w va A) (h : chk A ≠ 0) :
    Calls Try.prog 13 #[va] w fun e w' => e = .returned (.tuple #[.slice none 0 0, .int .i64 (chk A : Nat)]) ∧ Below w.heap.size w w' := by
  have HA := hid_of hA
  obtain ⟨a, ca, hva⟩ := hA.shape
  subst hva
  obtain ⟨c1, c2, hB⟩ := one_box w (.slice a A.length ca) 23
  have A2 := hid_of ((HA.out.below hB).mono hB.size)
  have BB := hid_of hB
  obtain ⟨x, hx⟩ : ∃ x, chk A = x := ⟨_, rfl⟩
  rw [hx] at h ⊢
  have HX := hid_of hx
  have z : ((x : Int) != 0) = true := by rw [bne_iff_ne]; omega
  clear hA hB c1 c2 hx
  go_enter Try.func13, Try.ntmps13
  go_wp2_with fail
  refine (check_any _ A _ _ A2.out).mono ?_
  rintro e w3 ⟨rfl, hw⟩
  subst hw
  rw [HX.out]
  go_wp2_with fail
  go_ret2
  exact ⟨rfl, BB.out⟩
set_option maxRecDepth 100000 in
set_option maxHeartbeats 2000000 in
theorem inverse_form (va : Value) (A : List (List Nat)) (n c : Nat) (w : World) (hA : Mx w.heap.size w va A) (rA : Rect A n c) (h : c ≠ n) :
    Calls Try.prog 13 #[va] w fun e w' => e = .returned (.tuple #[.slice none 0 0, .int .i64 1]) ∧ Below w.heap.size w w' := by
  have HA := hid_of hA
  have KA := hid_of (rect_chk rA)
  obtain ⟨a, ca, hva⟩ := hA.shape
  rw [rA.len] at hva
  have n16 := rA.n16
  have n1 := rA.n1
  have c16 := rA.c16
  subst hva
  obtain ⟨b1, o1, r1, k1, rfl, hx, _⟩ := hA.at (j := 0) (by rw [rA.len]; omega)
  rw [rA.row 0 (by omega), Nat.add_zero] at hx
  clear hA rA
  go_enter Try.func13, Try.ntmps13
  go_wp2_with fail
  obtain ⟨c1, c2, hB⟩ := one_box w (.slice (some ⟨b1, o1, none⟩) n ca) 23
  generalize w.alloc (.cells #[.slice (some ⟨b1, o1, none⟩) n ca] 23) = w2 at *
  have A2 := hid_of ((HA.out.below hB).mono hB.size)
  have x2 := (hB.cell (p := ⟨b1, o1, none⟩) (cell_lt hx)).trans hx
  have BB := hid_of hB
  have C2 := hid_of c2
  clear hx hB HA c2
  refine (check_any _ A _ _ A2.out).mono ?_
  rintro e w3 ⟨rfl, hw⟩
  subst hw
  rw [KA.out]
  obtain ⟨d1, d2, hB⟩ := one_box w3 (.int .i64 (n : Nat)) 3
  have y3 := (hB.cell (p := ⟨w.heap.size, 0, none⟩) (by have := C2.out; show w.heap.size < _; omega)).trans c1
  have z3 := (hB.cell (p := ⟨b1, o1, none⟩) (cell_lt x2)).trans x2
  have hnn : ((c : Int) != (n : Int)) = true := by rw [bne_iff_ne]; omega
  have BB3 := hid_of (BB.out.trans (hB.mono BB.out.size))
  clear hB d2
  go_wp2_with fail
  generalize w3.alloc (.cells #[.int .i64 (n : Nat)] 3) = w4 at *
  go_quiet (fail)
  go_wp2_with fail
  go_ret2
  exact ⟨rfl, below_drewN _ BB3.out⟩
/-- what Inverse says beside -/
def ive (A : List (List Nat)) : Nat := if chk A ≠ 0 then chk A else if (A[0]?.getD []).length ≠ A.length then 1 else if ivr A A.length < A.length then 5 else 0
/-- what Inverse makes -/
def ivm (A : List (List Nat)) : List (List Nat) := if ive A ≠ 0 then [] else tab A.length A.length (iv A A.length)
theorem inverse_all (va : Value) (A : List (List Nat)) (w : World) (hA : Mx w.heap.size w va A) (er : Nat) (her : ive A = er) :
    Calls Try.prog 13 #[va] w fun e w' => ∃ v, e = .returned (.tuple #[v, .int .i64 (er : Nat)]) ∧ Mx w'.heap.size w' v (ivm A) ∧ Below w.heap.size w w' := by
  unfold ivm
  rw [her]
  unfold ive at her
  subst her
  by_cases h1 : chk A ≠ 0
  · rw [if_pos h1, if_pos h1]
    exact (inverse_chk va A w hA h1).mono fun e w' ⟨he, hb⟩ => ⟨_, he, Mx.nil _ _, hb⟩
  · have rA := chk_rect (A := A) (by omega)
    rw [if_neg h1]
    by_cases h2 : (A[0]?.getD []).length ≠ A.length
    · rw [if_pos h2, if_pos (by decide)]
      exact (inverse_form va A _ _ w hA rA h2).mono fun e w' ⟨he, hb⟩ => ⟨_, he, Mx.nil _ _, hb⟩
    · rw [show (A[0]?.getD []).length = A.length by omega] at rA
      rw [if_neg h2]
      refine (inverse_ok va A _ w hA rA).mono fun e w' ⟨he, hb⟩ => ?_
      unfold InvEnd at he
      by_cases h3 : ivr A A.length < A.length
      · rw [if_pos h3] at he
        rw [if_pos h3, if_pos (by decide)]
        exact ⟨_, he, Mx.nil _ _, hb⟩
      · rw [if_neg h3] at he
        rw [if_neg h3, if_neg (by decide)]
        obtain ⟨v, he, hM⟩ := he
        exact ⟨v, he, hM, hb⟩
theorem ive_zero {A : List (List Nat)} (h : ive A = 0) : Rect A A.length A.length ∧ ¬ ivr A A.length < A.length ∧ ivm A = tab A.length A.length (iv A A.length) := by
  have h' := h
  unfold ive at h
  by_cases h1 : chk A ≠ 0
  · rw [if_pos h1] at h; exact absurd h h1
  · rw [if_neg h1] at h
    by_cases h2 : (A[0]?.getD []).length ≠ A.length
    · rw [if_pos h2] at h; cases h
    · rw [if_neg h2] at h
      by_cases h3 : ivr A A.length < A.length
      · rw [if_pos h3] at h; cases h
      · have rA := chk_rect (A := A) (by omega)
        rw [show (A[0]?.getD []).length = A.length by omega] at rA
        exact ⟨rA, h3, by unfold ivm; rw [h', if_neg (by decide)]⟩
theorem ive_of {A : List (List Nat)} {n : Nat} (hA : Bym A) (rA : Rect A n n) {b : Nat → Nat → Nat} (hb : Bm n n b) (h : IsInv n b (ent A)) : ive A = 0 ∧ ivm A = tab n n (iv A n) := by
  have e := rect_uniq rA
  have h3 := inverse_if hA hb h
  have h0 : ive A = 0 := by
    unfold ive
    rw [rect_chk rA, e.1, e.2, if_neg (by decide), if_neg (by simp), if_neg h3]
  exact ⟨h0, by unfold ivm; rw [h0, if_neg (by decide), e.1]⟩
theorem isInv_congr {n : Nat} {a a' b b' : Nat → Nat → Nat} (h : IsInv n b a) (e1 : ∀ i j, i < n → j < n → b' i j = b i j) (e2 : ∀ i j, i < n → j < n → a' i j = a i j) : IsInv n b' a' := by
  intro i j hi hj
  rw [← h i j hi hj]
  exact dot_congr (fun l hl => e1 i l hi hl) (fun l hl => e2 l j hl hj)
theorem bym_tab {n c : Nat} {f : Nat → Nat → Nat} (h : ∀ i j, i < n → j < c → f i j < 256) : Bym (tab n c f) := by
  intro i k
  by_cases hi : i < n
  · by_cases hk : k < c
    · rw [ent_tab hi hk]; exact h i k hi hk
    · unfold ent
      rw [tab_get f hi, List.getElem?_eq_none (by rw [rl_len]; omega)]
      decide
  · unfold ent
    rw [List.getElem?_eq_none (l := tab n c f) (by rw [tab_len]; omega)]
    simp
/-- AN INVERSE MAKES UNIT FROM BOTH SIDES, and its own is the matrix -/
theorem inv_laws {A : List (List Nat)} (hA : Bym A) (h : ive A = 0) : mme (ivm A) A = 0 ∧ mmp (ivm A) A = tab A.length A.length uf ∧ mme A (ivm A) = 0 ∧ mmp A (ivm A) = tab A.length A.length uf ∧ ive (ivm A) = 0 ∧ ivm (ivm A) = A ∧ Bym (ivm A) ∧ (ivm A).length = A.length := by
  obtain ⟨rA, h3, e⟩ := ive_zero h
  obtain ⟨i1, i2, i3⟩ := inverse_both hA h3
  rw [e]
  have rI := tab_rect (iv A A.length) rA.n1 rA.n16 rA.n1 rA.n16
  have bI := bym_tab i3
  generalize hn : A.length = n at *
  obtain ⟨p1, p2⟩ := mme_of rI rA
  obtain ⟨p3, p4⟩ := mme_of rA rI
  have eI : ∀ i j, i < n → j < n → ent (tab n n (iv A n)) i j = iv A n i j := fun i j hi hj => ent_tab hi hj
  have j1 : IsInv n (ent (tab n n (iv A n))) (ent A) := isInv_congr i1 eI (fun _ _ _ _ => rfl)
  have j2 : IsInv n (ent A) (ent (tab n n (iv A n))) := isInv_congr i2 (fun _ _ _ _ => rfl) eI
  have bA : Bm n n (ent A) := fun x y _ _ => hA x y
  have bI' : Bm n n (ent (tab n n (iv A n))) := fun x y _ _ => bI x y
  obtain ⟨q1, q2⟩ := ive_of bI rI bA j2
  refine ⟨p1, ?_, p3, ?_, q1, ?_, bI, tab_len _ _ _⟩
  · rw [p2]; exact tab_congr fun i k hi hk => j1 i k hi hk
  · rw [p4]; exact tab_congr fun i k hi hk => j2 i k hi hk
  · rw [q2]
    obtain ⟨k1, _, k3⟩ := inverse_both bI (inverse_if bI bA j2)
    conv => rhs; rw [← rect_tab rA]
    exact tab_congr (inverse_one bI' k3 bA k1 j1)
/-- that of a product is the product of both, the other way round -/
theorem inv_prod {A B : List (List Nat)} (hA : Bym A) (hB : Bym B) (h1 : ive A = 0) (h2 : ive B = 0) (h3 : mme A B = 0) : ive (mmp A B) = 0 ∧ mme (ivm B) (ivm A) = 0 ∧ ivm (mmp A B) = mmp (ivm B) (ivm A) := by
  obtain ⟨rA, a3, ea⟩ := ive_zero h1
  obtain ⟨rB, b3, eb⟩ := ive_zero h2
  obtain ⟨rA', _⟩ := mme_zero h3
  have hl : A.length = B.length := by rw [← (rect_uniq rA).2, (rect_uniq rA').2]
  rw [← hl] at rB b3 eb
  obtain ⟨i1, i2, i3⟩ := inverse_both hA a3
  obtain ⟨k1, k2, k3⟩ := inverse_both hB b3
  rw [ea, eb]
  generalize A.length = n at *
  obtain ⟨_, p2⟩ := mme_of rA rB
  rw [p2]
  have bp : ∀ i j, i < n → j < n → pf A B n i j < 256 := fun i j _ _ => dot_lt fun l _ => hA i l
  have rP := tab_rect (pf A B n) rA.n1 rA.n16 rA.n1 rA.n16
  have bP := bym_tab bp
  have rI := tab_rect (iv A n) rA.n1 rA.n16 rA.n1 rA.n16
  have rK := tab_rect (iv B n) rA.n1 rA.n16 rA.n1 rA.n16
  obtain ⟨q1, q2⟩ := mme_of rK rI
  have hb : Bm n n (fun i j => dot n (iv B n i) (fun l => iv A n l j)) := fun i j hi _ => dot_lt fun l hl => k3 i l hi hl
  have eP : ∀ i j, i < n → j < n → ent (tab n n (pf A B n)) i j = pf A B n i j := fun i j hi hj => ent_tab hi hj
  have hinv : IsInv n (fun i j => dot n (iv B n i) (fun l => iv A n l j)) (ent (tab n n (pf A B n))) := by
    intro i k hi hk
    dsimp only
    rw [dot_congr (x' := fun j => dot n (iv B n i) (fun l => iv A n l j)) (y' := fun j => dot n (ent A j) (fun m => ent B m k)) (fun _ _ => rfl) (fun j hj => eP j k hj hk)]
    rw [dot_assoc (fun l hl => k3 i l hi hl) (fun l j hl hj => i3 l j hl hj)]
    rw [← k1 i k hi hk]
    refine dot_congr (fun _ _ => rfl) fun l hl => ?_
    rw [← dot_assoc (fun j hj => i3 l j hl hj) (fun j m _ _ => hA j m)]
    rw [dot_congr (x' := uf l) (y' := fun m => ent B m k) (fun m hm => i1 l m hl hm) (fun _ _ => rfl), dot_uf (fun m _ => hB m k), if_pos hl]
  obtain ⟨r1, r2⟩ := ive_of bP rP hb hinv
  refine ⟨r1, q1, ?_⟩
  rw [r2, q2]
  obtain ⟨_, s2, s3⟩ := inverse_both bP (inverse_if bP hb hinv)
  refine tab_congr fun i j hi hj => ?_
  rw [← inverse_one (fun x y _ _ => bP x y) hb s3 hinv s2 i j hi hj]
  unfold pf
  exact dot_congr (fun l hl => (ent_tab hi hl).symm) (fun l hl => (ent_tab hl hj).symm)
end Go.Proofs.Ytjpibfnkchbglab
