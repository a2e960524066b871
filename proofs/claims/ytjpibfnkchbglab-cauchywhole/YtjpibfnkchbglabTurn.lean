/- What the reference's Turn answers of a matrix that Check lets through: columns as rows; and what Rank answers of everything. -/
import Derived.Test.YtjpibfnkchbglabRank
import Derived.Test.YtjpibfnkchbglabGrow
namespace Go.Proofs.Ytjpibfnkchbglab
open Go.ChangeShapes Go.WideShapes Go.ChangeAt Go.RowKit Go.Shelf
/-- columns as rows -/
def tf (A : List (List Nat)) (k i : Nat) : Nat := ent A i k
set_option maxRecDepth 100000 in
set_option maxHeartbeats 8000000 in
theorem turn_ok (va : Value) (A : List (List Nat)) (rows cols : Nat) (w : World) (hA : Mx w.heap.size w va A) (rA : Rect A cols rows) :
    Calls Try.prog 12 #[va] w fun e w' => ∃ v, e = .returned v ∧ Mx w'.heap.size w' v (tab rows cols (tf A)) ∧ Below w.heap.size w w' := by
  have HA := hid_of hA
  have RA := hid_of rA
  have h2 := rA.c16
  have h3 := rA.n1
  have h4 := rA.n16
  obtain ⟨a, ca, hva⟩ := hA.shape
  rw [rA.len] at hva
  subst hva
  obtain ⟨b0, o0, r0, k0, rfl, hx0, _⟩ := hA.at (j := 0) (by rw [rA.len]; omega)
  rw [rA.row 0 (by omega), Nat.add_zero] at hx0
  have HX0 := hid_of hx0
  obtain ⟨i0, hi, hz0, hz1, hz2⟩ := info_parts info5
  obtain ⟨j0, gi, gz0, gz1, gz2⟩ := info_parts info39
  clear hA rA hx0
  go_enter Try.func12, Try.ntmps12
  go_wp2_with fail
  go_loopw [3, 4] (fun v i w' => ∃ n : Nat, n ≤ rows ∧ i = .int .i64 n ∧ Hid (Mo w.heap.size w' v (tab n cols (tf A))) ∧ Hid (Below w.heap.size w w')) (fun _ i _ => rows - (intOf i).toNat)
  case atStart => exact ⟨0, by omega, rfl, Mo.nil _ _, Below.refl _ _⟩
  case round =>
    obtain ⟨n, hn, rfl, HM, HB⟩ := hrel
    have hx0 := (HB.out.cell (p := ⟨b0, o0, none⟩) (cell_lt HX0.out)).trans HX0.out
    obtain ⟨va, vc, hvs⟩ := HM.out.shape
    rw [tab_len] at hvs
    subst hvs
    by_cases hlt : n < rows
    · have t1 : decide ((n : Int) < (rows : Int)) = true := decide_eq_true (by omega)
      go_wp2_with fail
      go_loopw [5, 6] (fun r k w' => ∃ m : Nat, m ≤ cols ∧ k = .int .i64 m ∧ Hid (Ow wr.heap.size w' r (rl m (tf A n))) ∧ Hid (Below wr.heap.size wr w')) (fun _ k _ => cols - (intOf k).toNat)
      case atStart => exact ⟨0, by omega, rfl, ⟨World.ownsRow_nil _ _ _ _, by simp [rl], by simp [rl]⟩, Below.refl _ _⟩
      case round =>
        obtain ⟨m, hm, rfl, HO, HR⟩ := hrel
        obtain ⟨ra, rc, hrs⟩ := HO.out.shape
        rw [rl_len] at hrs
        subst hrs
        by_cases hml : m < cols
        · have t2 : decide ((m : Int) < (cols : Int)) = true := decide_eq_true (by omega)
          obtain ⟨b, o, c1, b2, o2, k2, he, hx, hy, hq⟩ := (HA.out.below (HB.out.trans (HR.out.mono HB.out.size))).byte RA.out hml hlt
          cases he
          have hsn := rl_succ m (tf A n)
          have hcf : tf A n m = ent A m n := rfl
          rw [hcf] at hsn
          obtain ⟨y, hye⟩ : ∃ y, ent A m n = y := ⟨_, rfl⟩
          rw [hye] at hq hsn hy
          have HS := hid_of hsn
          clear hcf hsn hye
          have HOA := hid_of (HO.out.below ((Below.refl wr.heap.size wr).alloc (Nat.le_refl _) (.cells #[.int .u8 ((y : Nat) : Int)] 5)) (Nat.le_refl _))
          have HBA := hid_of (HR.out.alloc HR.out.size (.cells #[.int .u8 ((y : Nat) : Int)] 5))
          go_wp2_with (at_builtin; refine wpList_append_own _ rfl _ _ 52 rfl _ 5 i0 (.int .u8 0) 1 1 und39 hi hz0 hz1 hz2 rfl (by decide) _ m (cellsB (rl m (tf A n))) rfl (by have h := HOA.out.1; rw [rl_len] at h; exact h) ⟨wr.heap.size, 0, none⟩ 1 1 [.int .u8 ((y : Nat) : Int)] rfl rfl (fun j u hj => by exact news_one wr _ j u hj) (by simp [Value.oneCell']) (by unfold maxLen; omega) (by omega) (by have := HR.out.size; simp; omega) ?_; intro v' w3 hown hgrow hnil)
          go_roundw
          case rel =>
            refine ⟨m + 1, by omega, by go_num, ?_, HBA.out.grown hgrow (by have := HR.out.size; simp; omega) HOA.out.block_le⟩
            rw [HS.out]
            exact ow_snoc HOA.out (by rw [rl_len]; omega) hq (by rw [rl_len]; exact hown)
          case measure => simp [intOf]; omega
        · have hme : m = cols := by omega
          subst hme
          have t2 : decide ((m : Int) < (m : Int)) = false := decide_eq_false (by omega)
          have HM2 := hid_of (HM.out.below HR.out)
          have HB2 := hid_of (HB.out.trans (HR.out.mono HB.out.size))
          have HSn := hid_of (tab_succ n m (tf A))
          have hBl := (Below.refl wr.heap.size wr).alloc (Nat.le_refl _) (.cells #[.slice ra m rc] 52)
          have HRo := hid_of ((RowOk.own (base := w.heap.size) HO.out).below hBl)
          have HMA := hid_of (HM2.out.below hBl)
          have HBA := hid_of (HB2.out.alloc HB2.out.size (.cells #[.slice ra m rc] 52))
          obtain ⟨cells, o1, o2⟩ := HMA.out
          have O1 := hid_of o1
          have O2 := hid_of o2
          clear hBl o1 o2 HM HB HR HO
          go_wp2_with (at_builtin; refine wpList_append_own _ rfl _ _ 23 rfl w.heap.size 52 j0 (.slice none 0 0) 1 24 und22 gi gz0 gz1 gz2 rfl (by decide) _ n cells rfl (by have h := O1.out; rw [tab_len] at h; exact h) ⟨wr.heap.size, 0, none⟩ 1 1 [.slice ra m rc] rfl rfl (fun j u hj => by exact news_row wr _ j u hj) (by simp [Value.oneCell']) (by unfold maxLen; omega) (by omega) (by have := HB2.out.size; simp; omega) ?_; intro v' w3 hown hgrow hnil)
          go_roundw
          case rel =>
            refine ⟨n + 1, by omega, by go_num, ?_, HBA.out.grown hgrow (by have := HB2.out.size; simp; omega) (fun k e => (O1.out.lt k e).1)⟩
            rw [HSn.out]
            exact mo_snoc O1.out O2.out HRo.out (by rw [tab_len]; exact hown) hgrow
          case measure => simp [intOf]; omega
    · have hne : n = rows := by omega
      subst hne
      have t1 : decide ((n : Int) < (n : Int)) = false := decide_eq_false (by omega)
      have HX := hid_of (HM.out.mx (by rw [tab_len]; omega))
      go_wp2_with fail
      go_ret
      exact ⟨_, rfl, HX.out, HB.out⟩
set_option maxRecDepth 100000 in
set_option maxHeartbeats 2000000 in
theorem rank_chk (va : Value) (A : List (List Nat)) (w : World) (hA : Mx w.heap.size w va A) (h : chk A ≠ 0) :
    Calls Try.prog 32 #[va] w fun e w' => e = .returned (.tuple #[.int .i64 0, .int .i64 (chk A : Nat)]) ∧ Below w.heap.size w w' := by
  have HA := hid_of hA
  obtain ⟨a, ca, hva⟩ := hA.shape
  subst hva
  obtain ⟨c1, c2, hB⟩ := one_box w (.slice a A.length ca) 23
  have A2 := hid_of ((HA.out.below hB).mono hB.size)
  have BB := hid_of hB
  obtain ⟨x, hx⟩ : ∃ x, chk A = x := ⟨_, rfl⟩
  rw [hx] at h ⊢
  have HX := hid_of hx
  have z : ((x : Int) != 0) = true := by rw [bne_iff_ne]; omega
  clear hA hB c1 c2 hx
  go_enter Try.func32, Try.ntmps32
  go_wp2_with fail
  refine (check_any _ A _ _ A2.out).mono ?_
  rintro e w3 ⟨rfl, hw⟩
  subst hw
  rw [HX.out]
  go_wp2_with fail
  go_ret2
  exact ⟨rfl, BB.out⟩
theorem rank_go (va : Value) (A : List (List Nat)) (w : World) (hA : Mx w.heap.size w va A) (h : chk A = 0) (r : Nat) (hr : rk A = r) :
    Calls Try.prog 32 #[va] w fun e w' => e = .returned (.tuple #[.int .i64 (r : Nat), .int .i64 0]) ∧ Below w.heap.size w w' := by
  subst hr
  exact rank_ok va A _ _ w hA (chk_rect h)
end Go.Proofs.Ytjpibfnkchbglab
