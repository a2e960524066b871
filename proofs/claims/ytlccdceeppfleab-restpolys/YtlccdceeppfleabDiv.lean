/- What poly.Divide answers, for every two lists of bytes. -/
import Derived.Test.YtlccdceeppfleabDivC
namespace Go.Proofs.Ytlccdceeppfleab
open Go.ChangeShapes Go.WideShapes Go.ChangeAt Go.RowKit Go.Shelf
theorem trim_len (L : List Nat) : (trim L).length ≤ L.length := by
  unfold trim
  rw [List.length_reverse]
  have := (List.dropWhile_sublist (fun x => x == 0) (l := L.reverse)).length_le
  rwa [List.length_reverse] at this
theorem trim_last {L : List Nat} (h : 0 < (trim L).length) : (trim L)[(trim L).length - 1]?.getD 0 ≠ 0 := by
  unfold trim at *
  generalize hd : L.reverse.dropWhile (fun x => x == 0) = D at *
  rw [List.length_reverse] at *
  have hne : D ≠ [] := by intro c; rw [c] at h; simp at h
  have h1 := List.head_dropWhile_not (fun x : Nat => x == 0) (l := L.reverse) (by rw [hd]; exact hne)
  rw [List.getElem?_reverse (by omega), show D.length - 1 - (D.length - 1) = 0 by omega, List.getElem?_eq_getElem h]
  simp only [Option.getD_some]
  have e : D[0] = D.head hne := (List.head_eq_getElem hne).symm
  rw [e]
  have h2 : (L.reverse.dropWhile (fun x => x == 0)).head (by rw [hd]; exact hne) = D.head hne := by simp [hd]
  rw [h2] at h1
  simpa using h1
/-- quotient and rest of two lists, trimmed, the second one not being 0 -/
def pdq (P Q : List Nat) : List Nat := trim (dfin P (trim Q) (Gf.inv ((trim Q)[(trim Q).length - 1]?.getD 0))).1
def pdr (P Q : List Nat) : List Nat := trim (dfin P (trim Q) (Gf.inv ((trim Q)[(trim Q).length - 1]?.getD 0))).2
set_option maxRecDepth 100000 in
set_option maxHeartbeats 1000000 in
theorem div_long (pv qv : Value) (P Q : List Nat) (w : World) (hP : Bs w.heap.size w pv P) (hQ : Bs w.heap.size w qv Q) (hl : 64 < P.length ∨ 64 < Q.length) :
    Calls Try.prog 8 #[pv, qv] w fun e w' => e = .returned (.tuple #[.slice none 0 0, .slice none 0 0, .int .i64 2]) ∧ Below w.heap.size w w' := by
  obtain ⟨_, p2, ao, cap, rfl, _⟩ := hP
  obtain ⟨_, q2, bo, cbp, rfl, _⟩ := hQ
  have HE : Hid (longs [P.length, Q.length] = true) := by show longs _ = true; rw [longs_two]; rcases hl with h | h <;> simp [h]
  clear hl
  go_enter Try.func8, Try.ntmps8
  go_wp2_with fail
  refine (check_any w.heap.size 2 2 [P.length, Q.length] _ rfl (by omega) (by simp; omega) (two_cells _ _ ao bo _ _ cap cbp (by simp [go_sem]) (by simp [go_sem]))).mono ?_
  rintro e w1 ⟨rfl, rfl⟩
  rw [HE.out]
  simp only [if_true]
  go_wp2_with fail
  go_ret3
  exact ⟨rfl, (Below.refl _ _).alloc (Nat.le_refl _) _⟩
set_option maxRecDepth 100000 in
set_option maxHeartbeats 1000000 in
theorem div_none (pv qv : Value) (P Q : List Nat) (w : World) (hP : Bs w.heap.size w pv P) (hQ : Bs w.heap.size w qv Q) (hl : P.length ≤ 64) (hm : Q.length ≤ 64) (h0 : trim Q = []) :
    Calls Try.prog 8 #[pv, qv] w fun e w' => e = .returned (.tuple #[.slice none 0 0, .slice none 0 0, .int .i64 5]) ∧ Below w.heap.size w w' := by
  have HQ : Hid (Bs w.heap.size w qv Q) := hQ
  obtain ⟨_, p2, ao, cap, rfl, _⟩ := hP
  obtain ⟨_, q2, bo, cbp, rfl, _⟩ := hQ
  have HE : Hid (longs [P.length, Q.length] = false) := by show longs _ = false; rw [longs_two, decide_eq_false (by omega), decide_eq_false (by omega)]; rfl
  have H0 : Hid (trim Q = []) := h0
  clear h0
  go_enter Try.func8, Try.ntmps8
  go_wp2_with fail
  refine (check_any w.heap.size 2 2 [P.length, Q.length] _ rfl (by omega) (by simp; omega) (two_cells _ _ ao bo _ _ cap cbp (by simp [go_sem]) (by simp [go_sem]))).mono ?_
  rintro e w1 ⟨rfl, rfl⟩
  rw [HE.out]
  have hB1 : Below w.heap.size w (w.alloc (.cells #[.slice ao P.length cap, .slice bo Q.length cbp] 22)) := (Below.refl _ _).alloc (Nat.le_refl _) _
  go_wp2_with fail
  refine (trim_any _ Q _ ((HQ.out.below hB1).mono (by simp))).mono ?_
  rintro e w2 ⟨v, rfl, hO, hB2⟩
  rw [H0.out] at hO
  obtain ⟨ao', cap', hv⟩ := hO.shape
  subst hv
  go_wp2_with fail
  go_ret3
  exact ⟨rfl, hB1.trans (hB2.mono (by simp))⟩
set_option maxRecDepth 100000 in
set_option maxHeartbeats 1000000 in
theorem div_any (pv qv : Value) (P Q : List Nat) (w : World) (hP : Bs w.heap.size w pv P) (hQ : Bs w.heap.size w qv Q) (hl : P.length ≤ 64) (hm : Q.length ≤ 64) (h0 : trim Q ≠ []) :
    Calls Try.prog 8 #[pv, qv] w fun e w' => ∃ v r, e = .returned (.tuple #[v, r, .int .i64 0]) ∧ Ow w.heap.size w' v (pdq P Q) ∧ Ow w.heap.size w' r (pdr P Q) ∧ Below w.heap.size w w' := by
  have HP : Hid (Bs w.heap.size w pv P) := hP
  have HQ : Hid (Bs w.heap.size w qv Q) := hQ
  obtain ⟨_, p2, ao, cap, rfl, _⟩ := hP
  obtain ⟨_, q2, bo, cbp, rfl, _⟩ := hQ
  have HE : Hid (longs [P.length, Q.length] = false) := by show longs _ = false; rw [longs_two, decide_eq_false (by omega), decide_eq_false (by omega)]; rfl
  have htl := trim_len Q
  have ht0 : 0 < (trim Q).length := by cases h : trim Q with | nil => exact absurd h h0 | cons a r => simp
  have HT : Hid ((trim Q)[(trim Q).length - 1]?.getD 0 ≠ 0) := trim_last ht0
  have hz : (((trim Q).length : Int) == 0) = false := by rw [beq_eq_false_iff_ne]; omega
  clear h0
  go_enter Try.func8, Try.ntmps8
  go_wp2_with fail
  refine (check_any w.heap.size 2 2 [P.length, Q.length] _ rfl (by omega) (by simp; omega) (two_cells _ _ ao bo _ _ cap cbp (by simp [go_sem]) (by simp [go_sem]))).mono ?_
  rintro e w1 ⟨rfl, rfl⟩
  rw [HE.out]
  have hB1 : Below w.heap.size w (w.alloc (.cells #[.slice ao P.length cap, .slice bo Q.length cbp] 22)) := (Below.refl _ _).alloc (Nat.le_refl _) _
  have HP1 : Hid (Bs w.heap.size (w.alloc (.cells #[.slice ao P.length cap, .slice bo Q.length cbp] 22)) (.slice ao P.length cap) P) := HP.out.below hB1
  go_wp2_with fail
  refine (trim_any _ Q _ ((HQ.out.below hB1).mono (by simp))).mono ?_
  rintro e w2 ⟨v, rfl, hO, hB2⟩
  obtain ⟨ao', cap', hv⟩ := hO.shape
  subst hv
  have hB12 : Below w.heap.size w w2 := hB1.trans (hB2.mono (by simp))
  go_wp2_with fail
  refine (dividep_any _ _ P (trim Q) _ ((HP.out.below hB12).mono hB12.size) hO.bs (by omega) (by omega) ht0 HT.out).mono ?_
  rintro e w3 ⟨vq, vr, rfl, hbq, hbr, hB3⟩
  have hB13 : Below w.heap.size w w3 := hB12.trans (hB3.mono hB12.size)
  go_wp2_with fail
  refine (trim_any _ _ _ hbq).mono ?_
  rintro e w4 ⟨v4, rfl, hO4, hB4⟩
  have hB14 : Below w.heap.size w w4 := hB13.trans (hB4.mono hB13.size)
  go_wp2_with fail
  refine (trim_any _ _ _ ((hbr.below hB4).mono hB4.size)).mono ?_
  rintro e w5 ⟨v5, rfl, hO5, hB5⟩
  go_wp2_with fail
  go_ret3
  exact ⟨_, _, rfl, (hO4.below hB5 (Nat.le_refl _)).mono hB13.size, hO5.mono hB14.size, hB14.trans (hB5.mono hB14.size)⟩
end Go.Proofs.Ytlccdceeppfleab
