/- What the reference's CauchyOf and MatrixCheck answer. -/
import Derived.Test.YtjpibfnkchbglaaGrow
namespace Go.Proofs.Ytjpibfnkchbglaa
open Go.ChangeShapes Go.WideShapes Go.ChangeAt Go.RowKit Go.Shelf
set_option maxRecDepth 100000 in
set_option maxHeartbeats 2000000 in
theorem cauchyOf_no (rows cols : Int) (w : World) (h : (rows < 1 ∨ 16 < rows) ∨ (cols < 1 ∨ 16 < cols)) :
    Calls Try.prog 23 #[.int .i64 rows, .int .i64 cols] w fun e w' => e = .returned (.tuple #[.slice none 0 0, .int .i64 3]) ∧ w' = w := by
  by_cases a : rows < 1
  · have z1 : decide (rows < 1) = true := decide_eq_true a
    go_enter Try.func23, Try.ntmps23
    go_wp2_with fail
    go_ret2
    exact ⟨rfl, rfl⟩
  · have z1 : decide (rows < 1) = false := decide_eq_false a
    by_cases b : 16 < rows
    · have z2 : decide ((16 : Int) < rows) = true := decide_eq_true b
      go_enter Try.func23, Try.ntmps23
      go_wp2_with fail
      go_ret2
      exact ⟨rfl, rfl⟩
    · have z2 : decide ((16 : Int) < rows) = false := decide_eq_false b
      by_cases c : cols < 1
      · have z3 : decide (cols < 1) = true := decide_eq_true c
        go_enter Try.func23, Try.ntmps23
        go_wp2_with fail
        go_ret2
        exact ⟨rfl, rfl⟩
      · have z3 : decide (cols < 1) = false := decide_eq_false c
        have z4 : decide ((16 : Int) < cols) = true := decide_eq_true (by omega)
        go_enter Try.func23, Try.ntmps23
        go_wp2_with fail
        go_ret2
        exact ⟨rfl, rfl⟩
set_option maxRecDepth 100000 in
set_option maxHeartbeats 8000000 in
theorem cauchyOf_ok (rows cols : Nat) (w : World) (h1 : 1 ≤ rows) (h2 : rows ≤ 16) (h3 : 1 ≤ cols) (h4 : cols ≤ 16) :
    Calls Try.prog 23 #[.int .i64 (rows : Nat), .int .i64 (cols : Nat)] w fun e w' => ∃ v, e = .returned (.tuple #[v, .int .i64 0]) ∧ Mx w'.heap.size w' v (tab rows cols (cf rows)) ∧ Below w.heap.size w w' := by
  have z1 : decide ((rows : Int) < 1) = false := decide_eq_false (by omega)
  have z2 : decide ((16 : Int) < (rows : Int)) = false := decide_eq_false (by omega)
  have z3 : decide ((cols : Int) < 1) = false := decide_eq_false (by omega)
  have z4 : decide ((16 : Int) < (cols : Int)) = false := decide_eq_false (by omega)
  obtain ⟨i0, hi, hz0, hz1, hz2⟩ := info_parts info5
  obtain ⟨j0, gi, gz0, gz1, gz2⟩ := info_parts info39
  go_enter Try.func23, Try.ntmps23
  go_wp2_with fail
  go_loopw [6, 7] (fun v i w' => ∃ n : Nat, n ≤ rows ∧ i = .int .i64 n ∧ Hid (Mo w.heap.size w' v (tab n cols (cf rows))) ∧ Hid (Below w.heap.size w w')) (fun _ i _ => rows - (intOf i).toNat)
  case atStart => exact ⟨0, by omega, rfl, Mo.nil _ _, Below.refl _ _⟩
  case round =>
    obtain ⟨n, hn, rfl, HM, HB⟩ := hrel
    obtain ⟨va, vc, hvs⟩ := HM.out.shape
    rw [tab_len] at hvs
    subst hvs
    by_cases hlt : n < rows
    · have t1 : decide ((n : Int) < (rows : Int)) = true := decide_eq_true (by omega)
      go_wp2_with fail
      go_loopw [8, 9] (fun r k w' => ∃ m : Nat, m ≤ cols ∧ k = .int .i64 m ∧ Hid (Ow wr.heap.size w' r (rl m (cf rows n))) ∧ Hid (Below wr.heap.size wr w')) (fun _ k _ => cols - (intOf k).toNat)
      case atStart => exact ⟨0, by omega, rfl, ⟨World.ownsRow_nil _ _ _ _, by simp [rl], by simp [rl]⟩, Below.refl _ _⟩
      case round =>
        obtain ⟨m, hm, rfl, HO, HR⟩ := hrel
        obtain ⟨ra, rc, hrs⟩ := HO.out.shape
        rw [rl_len] at hrs
        subst hrs
        by_cases hml : m < cols
        · have t2 : decide ((m : Int) < (cols : Int)) = true := decide_eq_true (by omega)
          have s1 : IntKind.i64.wrap ((rows : Int) + (m : Int)) = ((rows + m : Nat) : Int) := by rw [IntKind.wrap_i64]; omega
          have s2 : bits .xor .i64 (n : Int) ((rows + m : Nat) : Int) = ((n ^^^ (rows + m) : Nat) : Int) := i64_xor n (rows + m) (by omega) (by omega)
          have hx := xor_ne (a := n) (b := rows + m) (by omega)
          have hl : n ^^^ (rows + m) < 32 := Nat.xor_lt_two_pow (n := 5) (by omega) (by omega)
          have s3 : IntKind.u8.wrap ((n ^^^ (rows + m) : Nat) : Int) = ((n ^^^ (rows + m) : Nat) : Int) := by rw [IntKind.wrap_u8]; omega
          have hcf : cf rows n m = Gf.inv (n ^^^ (rows + m)) := rfl
          have hsn := rl_succ m (cf rows n)
          rw [hcf] at hsn
          obtain ⟨s, hs⟩ : ∃ s, rows + m = s := ⟨_, rfl⟩
          rw [hs] at s1 s2 s3 hx hl hsn
          obtain ⟨x, hxe⟩ : ∃ x, n ^^^ s = x := ⟨_, rfl⟩
          rw [hxe] at s2 s3 hx hl hsn
          have hq := Gf.inv_lt x
          have hone : Gf.gm 1 (Gf.inv x) = Gf.inv x := Gf.gm_oneL hq
          obtain ⟨y, hye⟩ : ∃ y, Gf.inv x = y := ⟨_, rfl⟩
          rw [hye] at hq hsn hone
          have HS := hid_of hsn
          have HY := hid_of hye
          have HN := hid_of hone
          clear hs hxe hcf hsn hye hone
          go_wp2_with fail
          refine (quotOf_any 1 x _ (by omega) (by omega) (by omega)).mono ?_
          rintro e w2 ⟨rfl, hw⟩
          subst hw
          rw [HY.out, HN.out]
          have HOA := hid_of (HO.out.below ((Below.refl w2.heap.size w2).alloc (Nat.le_refl _) (.cells #[.int .u8 ((y : Nat) : Int)] 5)) (Nat.le_refl _))
          have HBA := hid_of (HR.out.alloc HR.out.size (.cells #[.int .u8 ((y : Nat) : Int)] 5))
          go_wp2_with (at_builtin; refine wpList_append_own _ rfl _ _ 39 rfl _ 5 i0 (.int .u8 0) 1 1 und39 hi hz0 hz1 hz2 rfl (by decide) _ m (cellsB (rl m (cf rows n))) rfl (by have h := HOA.out.1; rw [rl_len] at h; exact h) ⟨w2.heap.size, 0, none⟩ 1 1 [.int .u8 ((y : Nat) : Int)] rfl rfl (fun j u hj => by exact news_one w2 _ j u hj) (by simp [Value.oneCell']) (by unfold maxLen; omega) (by omega) (by have := HR.out.size; simp; omega) ?_; intro v' w3 hown hgrow hnil)
          go_roundw
          case rel =>
            refine ⟨m + 1, by omega, by go_num, ?_, HBA.out.grown hgrow (by have := HR.out.size; simp; omega) HOA.out.block_le⟩
            rw [HS.out]
            exact ow_snoc HOA.out (by rw [rl_len]; omega) hq (by rw [rl_len]; exact hown)
          case measure => simp [intOf]; omega
        · have hme : m = cols := by omega
          subst hme
          have t2 : decide ((m : Int) < (m : Int)) = false := decide_eq_false (by omega)
          have HM2 := hid_of (HM.out.below HR.out)
          have HB2 := hid_of (HB.out.trans (HR.out.mono HB.out.size))
          have HSn := hid_of (tab_succ n m (cf rows))
          have hBl := (Below.refl wr.heap.size wr).alloc (Nat.le_refl _) (.cells #[.slice ra m rc] 39)
          have HRo := hid_of ((RowOk.own (base := w.heap.size) HO.out).below hBl)
          have HMA := hid_of (HM2.out.below hBl)
          have HBA := hid_of (HB2.out.alloc HB2.out.size (.cells #[.slice ra m rc] 39))
          obtain ⟨cells, o1, o2⟩ := HMA.out
          have O1 := hid_of o1
          have O2 := hid_of o2
          clear hBl o1 o2 HM HB HR HO
          go_wp2_with (at_builtin; refine wpList_append_own _ rfl _ _ 22 rfl w.heap.size 39 j0 (.slice none 0 0) 1 24 und22 gi gz0 gz1 gz2 rfl (by decide) _ n cells rfl (by have h := O1.out; rw [tab_len] at h; exact h) ⟨wr.heap.size, 0, none⟩ 1 1 [.slice ra m rc] rfl rfl (fun j u hj => by exact news_row wr _ j u hj) (by simp [Value.oneCell']) (by unfold maxLen; omega) (by omega) (by have := HB2.out.size; simp; omega) ?_; intro v' w3 hown hgrow hnil)
          go_roundw
          case rel =>
            refine ⟨n + 1, by omega, by go_num, ?_, HBA.out.grown hgrow (by have := HB2.out.size; simp; omega) (fun k e => (O1.out.lt k e).1)⟩
            rw [HSn.out]
            exact mo_snoc O1.out O2.out HRo.out (by rw [tab_len]; exact hown) hgrow
          case measure => simp [intOf]; omega
    · have hne : n = rows := by omega
      subst hne
      have t1 : decide ((n : Int) < (n : Int)) = false := decide_eq_false (by omega)
      have HX := hid_of (HM.out.mx (by rw [tab_len]; omega))
      go_wp2_with fail
      go_ret2
      exact ⟨_, rfl, HX.out, HB.out⟩
end Go.Proofs.Ytjpibfnkchbglaa
