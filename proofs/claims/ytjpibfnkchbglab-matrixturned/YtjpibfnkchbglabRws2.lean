/- What matrix.Rows answers, its rows found. -/
import Derived.Test.YtjpibfnkchbglabRws
namespace Go.Proofs.Ytjpibfnkchbglab
open Go.ChangeShapes Go.WideShapes Go.ChangeAt Go.RowKit Go.Shelf
/-- the rows at these places -/
def rwf (A : List (List Nat)) (L : List Int) (i k : Nat) : Nat := ent A (L[i]?.getD 0).toNat k
theorem good_at {n : Nat} {L : List Int} (h : L.any (bad n) = false) {i : Nat} (hi : i < L.length) : 0 ≤ L[i]?.getD 0 ∧ L[i]?.getD 0 < n := by
  have := List.any_eq_false.1 h L[i] (List.getElem_mem _)
  rw [List.getElem?_eq_getElem hi, Option.getD_some]
  simp [bad] at this
  exact this
theorem rows_clo (ba bi : Nat) (va vi : Value) (A : List (List Nat)) (L : List Int) (n c : Nat) (w : World) (ca : w.cell? ⟨ba, 0, none⟩ = some va) (ci : w.cell? ⟨bi, 0, none⟩ = some vi) (hA : Mx w.heap.size w va A) (hL : Is w.heap.size w vi L) (rA : Rect A n c) (hb : L.any (bad n) = false) :
    Clo 36 #[.pointer (some ⟨ba, 0, none⟩), .pointer (some ⟨bi, 0, none⟩)] w (rwf A L) L.length c := by
  intro W hW i k hi hk
  obtain ⟨g0, g1⟩ := good_at hb hi
  exact ⟨hA.lt _ _, rows2_any ba bi va vi A L n c w.heap.size W ((hW.cell (p := ⟨ba, 0, none⟩) (cell_lt ca)).trans ca) ((hW.cell (p := ⟨bi, 0, none⟩) (cell_lt ci)).trans ci) (hA.below hW) (hL.below hW) rA i k hi g0 g1 hk⟩
theorem two_boxes2 (w : World) (x y : Value) : ((w.alloc (.cells #[x] 23)).alloc (.cells #[y] 22)).cell? ⟨w.heap.size, 0, none⟩ = some x ∧ ((w.alloc (.cells #[x] 23)).alloc (.cells #[y] 22)).cell? ⟨w.heap.size + 1, 0, none⟩ = some y ∧ Below w.heap.size w ((w.alloc (.cells #[x] 23)).alloc (.cells #[y] 22)) := by
  refine ⟨by simp [go_sem], by simp [go_sem], ?_⟩
  exact ((Below.refl _ w).alloc (Nat.le_refl _) _).alloc (by simp) _
set_option maxRecDepth 100000 in
set_option maxHeartbeats 8000000 in
theorem rows_ok (va vi : Value) (A : List (List Nat)) (L : List Int) (n c l : Nat) (w : World) (hA : Mx w.heap.size w va A) (hL : Is w.heap.size w vi L) (rA : Rect A n c) (hl : L.length = l) (l1 : 1 ≤ l) (l16 : l ≤ 16) (hb : L.any (bad n) = false) :
    Calls Try.prog 11 #[va, vi] w fun e w' => ∃ v, e = .returned (.tuple #[v, .int .i64 0]) ∧ Mx w'.heap.size w' v (tab l c (rwf A L)) ∧ Below w.heap.size w w' := by
  have HA := hid_of hA
  have HL := hid_of hL
  have KA := hid_of (rect_chk rA)
  have RA := hid_of rA
  have HBd := hid_of hb
  have HLl := hid_of hl
  obtain ⟨a, ca, hva⟩ := hA.shape
  obtain ⟨b, cb, hvb⟩ := hL.shape
  rw [rA.len] at hva
  rw [hl] at hvb
  have n16 := rA.n16
  have n1 := rA.n1
  have c16 := rA.c16
  subst hva
  subst hvb
  obtain ⟨b1, o1, r1, k1, rfl, hx, _⟩ := hA.at (j := 0) (by rw [rA.len]; omega)
  rw [rA.row 0 (by omega), Nat.add_zero] at hx
  have hmf : ∀ (fn : Fn) (first cap : Array Value) (w : World), (Instr.makeFunc fn first cap).run Try.prog w = .ok (.func fn first cap) w := fun _ _ _ _ => rfl
  have z1 : decide ((16 : Int) < (l : Int)) = false := decide_eq_false (by omega)
  have z2 : ((l : Int) == 0) = false := by rw [beq_eq_false_iff_ne]; omega
  clear hA hL rA hb hl
  go_enter Try.func11, Try.ntmps11
  go_wp2_with fail
  obtain ⟨c1, c2, hB⟩ := two_boxes2 w (.slice (some ⟨b1, o1, none⟩) n ca) (.slice b l cb)
  generalize (w.alloc (.cells #[.slice (some ⟨b1, o1, none⟩) n ca] 23)).alloc (.cells #[.slice b l cb] 22) = w2 at *
  have A2 := hid_of ((HA.out.below hB).mono hB.size)
  have L2 := hid_of ((HL.out.below hB).mono hB.size)
  have x2 := (hB.cell (p := ⟨b1, o1, none⟩) (cell_lt hx)).trans hx
  have BB := hid_of hB
  have C1 := hid_of c1
  clear hx hB HA HL
  refine (check_any _ A _ _ A2.out).mono ?_
  rintro e w3 ⟨rfl, hw⟩
  subst hw
  rw [KA.out]
  go_wp2_with fail
  refine (cont_any _ L _ n _ ca _ _ L2.out C1.out).mono ?_
  rintro e w4 ⟨rfl, hw⟩
  subst hw
  rw [HBd.out]
  have HCl : Hid (Clo 36 #[.pointer (some ⟨w.heap.size, 0, none⟩), .pointer (some ⟨w.heap.size + 1, 0, none⟩)] w4.drew (rwf A L) l c) := by
    have := rows_clo w.heap.size (w.heap.size + 1) _ _ A L n c w4.drew c1 c2 A2.out L2.out RA.out HBd.out
    rw [HLl.out] at this
    exact this
  have BBd : Hid (Below w.heap.size w w4.drew) := BB.out.drew
  have c1d : w4.drew.cell? ⟨w.heap.size, 0, none⟩ = some (.slice (some ⟨b1, o1, none⟩) n ca) := c1
  have c2d : w4.drew.cell? ⟨w.heap.size + 1, 0, none⟩ = some (.slice b l cb) := c2
  have x2d : w4.drew.cell? ⟨b1, o1, none⟩ = some (.slice r1 c k1) := x2
  clear A2 L2 BB C1
  go_wp2_with fail
  go_region_with (go_at_call 28; refine (fill_mx l c 36 _ (rwf A L) _ (by omega) (by omega) cf45 HCl.out).mono ?_; rintro e w7 ⟨v7, rfl, hM, hB7, _⟩; have M7 := hid_of hM; have B7 := hid_of (BBd.out.trans (hB7.mono BBd.out.size)); clear hM hB7)
  all_goals go_wp2_with fail
  all_goals go_ret2
  all_goals exact ⟨_, rfl, M7.out, B7.out⟩
end Go.Proofs.Ytjpibfnkchbglab
