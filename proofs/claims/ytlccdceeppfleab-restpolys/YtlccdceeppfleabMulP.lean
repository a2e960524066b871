/- What poly.Mul answers, for every two lists of bytes. -/
import Derived.Test.YtlccdceeppfleabProduct
namespace Go.Proofs.Ytlccdceeppfleab
open Go.ChangeShapes Go.WideShapes Go.ChangeAt Go.RowKit Go.Shelf
/-- the product of two lists, trimmed -/
def pm (P Q : List Nat) : List Nat := trim (prow P Q P.length)
theorem two_cells (w : World) (B : Nat) (ao bo : Option Addr) (l m c d : Nat) (h0 : w.cell? ⟨B, 0, none⟩ = some (.slice ao l c)) (h1 : w.cell? ⟨B, 1, none⟩ = some (.slice bo m d)) :
    ∀ j (h : j < [l, m].length), ∃ ao c, w.cell? ⟨B, j, none⟩ = some (.slice ao [l, m][j] c) := by
  intro j h
  match j with
  | 0 => exact ⟨_, _, h0⟩
  | 1 => exact ⟨_, _, h1⟩
  | j + 2 => simp at h; omega
set_option maxRecDepth 100000 in
set_option maxHeartbeats 1000000 in
theorem mul_long (pv qv : Value) (P Q : List Nat) (w : World) (hP : Bs w.heap.size w pv P) (hQ : Bs w.heap.size w qv Q) (hl : 64 < P.length ∨ 64 < Q.length) :
    Calls Try.prog 10 #[pv, qv] w fun e w' => e = .returned (.tuple #[.slice none 0 0, .int .i64 2]) ∧ Below w.heap.size w w' := by
  obtain ⟨_, p2, ao, cap, rfl, _⟩ := hP
  obtain ⟨_, q2, bo, cbp, rfl, _⟩ := hQ
  have HE : Hid (longs [P.length, Q.length] = true) := by show longs _ = true; rw [longs_two]; rcases hl with h | h <;> simp [h]
  clear hl
  go_enter Try.func10, Try.ntmps10
  go_wp2_with fail
  refine (check_any w.heap.size 2 2 [P.length, Q.length] _ rfl (by omega) (by simp; omega) (two_cells _ _ ao bo _ _ cap cbp (by simp [go_sem]) (by simp [go_sem]))).mono ?_
  rintro e w1 ⟨rfl, rfl⟩
  rw [HE.out]
  simp only [if_true]
  go_wp2_with fail
  go_ret2
  exact ⟨rfl, (Below.refl _ _).alloc (Nat.le_refl _) _⟩
set_option maxRecDepth 100000 in
set_option maxHeartbeats 1000000 in
theorem mulp_any (pv qv : Value) (P Q : List Nat) (w : World) (hP : Bs w.heap.size w pv P) (hQ : Bs w.heap.size w qv Q) (hl : P.length ≤ 64) (hm : Q.length ≤ 64) :
    Calls Try.prog 10 #[pv, qv] w fun e w' => ∃ v, e = .returned (.tuple #[v, .int .i64 0]) ∧ Ow w.heap.size w' v (pm P Q) ∧ Below w.heap.size w w' := by
  have HP : Hid (Bs w.heap.size w pv P) := hP
  have HQ : Hid (Bs w.heap.size w qv Q) := hQ
  obtain ⟨_, p2, ao, cap, rfl, _⟩ := hP
  obtain ⟨_, q2, bo, cbp, rfl, _⟩ := hQ
  have HE : Hid (longs [P.length, Q.length] = false) := by show longs _ = false; rw [longs_two, decide_eq_false (by omega), decide_eq_false (by omega)]; rfl
  go_enter Try.func10, Try.ntmps10
  go_wp2_with fail
  refine (check_any w.heap.size 2 2 [P.length, Q.length] _ rfl (by omega) (by simp; omega) (two_cells _ _ ao bo _ _ cap cbp (by simp [go_sem]) (by simp [go_sem]))).mono ?_
  rintro e w1 ⟨rfl, rfl⟩
  rw [HE.out]
  have hB1 : Below w.heap.size w (w.alloc (.cells #[.slice ao P.length cap, .slice bo Q.length cbp] 22)) := (Below.refl _ _).alloc (Nat.le_refl _) _
  go_wp2_with fail
  refine (product_any _ _ P Q _ ((HP.out.below hB1).mono (by simp)) ((HQ.out.below hB1).mono (by simp)) (by omega)).mono ?_
  rintro e w2 ⟨v, rfl, hO, hB2⟩
  go_wp2_with fail
  go_ret2
  exact ⟨_, rfl, hO.mono (by simp), hB1.trans (hB2.mono (by simp))⟩
end Go.Proofs.Ytlccdceeppfleab
