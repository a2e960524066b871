/- What the reference's bit16 and rightWord answer, for every word. -/
import Derived.Test.YtiiickinlklelaaDoorRa
import Derived.Test.YtiiickinlklelaaDoorWx
namespace Go.Proofs.YtiiickinlklelaaDoor
open Go.ChangeShapes Go.WideShapes Go.ChangeAt Go.RowKit Go.Shelf
theorem bt_lt (w i : Nat) : Wd.bt w i < 2 := Nat.mod_lt _ (by decide)
theorem bt_int (R I : Nat) : ((R : Int) / 2 ^ I).tmod 2 = (Wd.bt R I : Nat) := by
  have e : (R : Int) / 2 ^ I = ((R / 2 ^ I : Nat) : Int) := by push_cast; rfl
  rw [e, Int.tmod_eq_emod_of_nonneg (Int.natCast_nonneg _)]
  show ((R / 2 ^ I : Nat) : Int) % 2 = ((R / 2 ^ I % 2 : Nat) : Int)
  omega
theorem bit16_any (R I : Nat) (hR : R < 65536) (hI : I < 16) (w : World) :
    Calls Tryd.prog 20 #[.int .u16 R, .int .i64 I] w fun e w' => e = .returned (.int .i64 (Wd.bt R I : Nat)) ∧ w' = w := by
  have HT := hid_of (bt_int R I)
  go_enter Tryd.func20, Tryd.ntmps20
  go_wp2_with fail
  go_ret
  exact ⟨ret_int HT.out, rfl⟩
theorem w64 (D : Nat) (h : D ≤ 12) : wrap64 (D : Int) = D := by
  unfold wrap64
  omega
theorem tst (j P D : Nat) (hD : (j + 1) / P = D) (hDl : D ≤ 12) : ((wrap64 (((j : Int) + 1) / (P : Int))).tmod 2 == 1) = decide (D % 2 = 1) ∧ ((((j : Int) + 1) / (P : Int)).tmod 2 == 1) = decide (D % 2 = 1) := by
  have e : ((j : Int) + 1) / (P : Int) = (D : Int) := by rw [← hD]; push_cast; rfl
  have e2 : ((D : Int).tmod 2 == 1) = decide (D % 2 = 1) := by
    rw [Int.tmod_eq_emod_of_nonneg (Int.natCast_nonneg _), Bool.eq_iff_iff]
    simp
    omega
  rw [e, w64 D hDl]
  exact ⟨e2, e2⟩
theorem s1_le (w : Nat) : ∀ k, Wd.s1 w k ≤ k
  | 0 => Nat.le_refl _
  | k + 1 => by
    have h1 := s1_le w k
    have h2 := bt_lt w k
    show Wd.s1 w k + Wd.bt w k ≤ k + 1
    omega
theorem sq_succ (w n j : Nat) : Wd.sq w n (j + 1) = if (j + 1) / n % 2 = 1 then Wd.sq w n j + Wd.bt w (j + 1) else Wd.sq w n j := by
  show cond (Nat.beq ((j + 1) / n % 2) 1) (Wd.sq w n j + Wd.bt w (j + 1)) (Wd.sq w n j) = _
  by_cases h : (j + 1) / n % 2 = 1
  · rw [if_pos h, h]; rfl
  · rw [if_neg h, show Nat.beq ((j + 1) / n % 2) 1 = false from Bool.eq_false_iff.2 (fun c => h (Nat.eq_of_beq_eq_true c))]; rfl
theorem sq_le (w n : Nat) : ∀ j, Wd.sq w n j ≤ j
  | 0 => Nat.le_refl _
  | j + 1 => by
    have h1 := sq_le w n j
    have h2 := bt_lt w (j + 1)
    rw [sq_succ]
    split <;> omega
theorem rgn_succ (w m : Nat) : Wd.rgn w (m + 1) = (Wd.rgn w m && !decide (Wd.sq w (2 ^ m) 12 % 2 = 1)) := by
  show cond (Wd.rgn w m) (cond (Nat.beq (Wd.sq w (2 ^ m) 12 % 2) 1) false true) false = _
  by_cases h : Wd.sq w (2 ^ m) 12 % 2 = 1
  · rw [h]; cases Wd.rgn w m <;> rfl
  · rw [show Nat.beq (Wd.sq w (2 ^ m) 12 % 2) 1 = false from Bool.eq_false_iff.2 (fun c => h (Nat.eq_of_beq_eq_true c)), decide_eq_false h]; cases Wd.rgn w m <;> rfl
theorem rgn_false (w : Nat) {m : Nat} (h : Wd.rgn w m = false) : ∀ k, m ≤ k → Wd.rgn w k = false := by
  intro k hk
  induction k with
  | zero => obtain rfl : m = 0 := by omega
            exact h
  | succ k ih =>
    by_cases e : m = k + 1
    · subst e; exact h
    · rw [rgn_succ, ih (by omega)]; rfl
theorem pow_le8 {m : Nat} (h : m < 4) : (1 : Nat) ≤ 2 ^ m ∧ (2 : Nat) ^ m ≤ 8 :=
  ⟨Nat.one_le_two_pow, Nat.le_trans (Nat.pow_le_pow_right (n := 2) (i := m) (j := 3) (by decide) (by omega)) (by decide)⟩
set_option maxRecDepth 100000 in
set_option maxHeartbeats 2000000 in
theorem right_any (R : Nat) (hR : R < 65536) (w : World) :
    Calls Tryd.prog 16 #[.int .u16 R] w fun e w' => e = .returned (.bool (Wd.rg R)) ∧ w' = w := by
  have HRg := hid_of (show Wd.rg R = cond (Wd.rgn R 4) (cond (Nat.beq (Wd.s1 R 13 % 2) 0) (Nat.ble (R + 1) 8192) false) false from rfl)
  have hbit := hid_of (fun I (hI : I < 16) W => bit16_any R I hR hI W)
  go_enter Tryd.func16, Tryd.ntmps16
  go_wp2_with fail
  go_loop [3, 4] (fun s i => ∃ k : Nat, k ≤ 13 ∧ i = .int .i64 k ∧ s = .int .i64 (Wd.s1 R k : Nat)) (fun _ i => 13 - (intOf i).toNat)
  case atStart => exact ⟨0, by omega, rfl, rfl⟩
  case round =>
    obtain ⟨k, hk, rfl, rfl⟩ := hrel
    have hs := s1_le R k
    by_cases hlt : k < 13
    · have hb2 := bt_lt R k
      have HS := hid_of (show Wd.s1 R (k + 1) = Wd.s1 R k + Wd.bt R k from rfl)
      have hc := hid_of (hbit.out k (by omega))
      generalize Wd.bt R k = b at *
      have d1 : decide ((k : Int) ≤ 12) = true := decide_eq_true (by omega)
      go_wp2_with fail
      refine (hc.out _).mono ?_
      rintro e w1 ⟨rfl, rfl⟩
      go_wp2_with fail
      go_round
      case rel => exact ⟨k + 1, by omega, by go_num, by rw [HS.out]; go_num⟩
      case measure => simp [intOf]; omega
    · obtain rfl : k = 13 := by omega
      have HS := hid_of hs
      generalize hS1 : Wd.s1 R 13 = S1 at *
      clear hs hk hlt
      go_wp2_with fail
      go_loop [5] (fun n => ∃ m : Nat, m ≤ 4 ∧ n = .int .i64 ((2 ^ m : Nat) : Int) ∧ Hid (Wd.rgn R m = true)) (fun n => 16 - (intOf n).toNat)
      case atStart => exact ⟨0, by omega, rfl, rfl⟩
      case round =>
        obtain ⟨m, hm, rfl, HM⟩ := hrel
        have HRs := hid_of (rgn_succ R m)
        by_cases hlt : m < 4
        · have hp := pow_le8 hlt
          have HP := hid_of (show (2 : Nat) ^ (m + 1) = 2 ^ m * 2 from Nat.pow_succ 2 m)
          have HQ := hid_of (sq_succ R (2 ^ m))
          have HQ0 := hid_of (show Wd.sq R (2 ^ m) 0 = 0 from rfl)
          have HQl := hid_of (sq_le R (2 ^ m))
          generalize hP : 2 ^ m = P at *
          have d1 : decide ((P : Int) ≤ 8) = true := decide_eq_true (by omega)
          have hP0 : (P : Int) ≠ 0 := by omega
          go_wp2_with fail
          go_loop [6, 7] (fun s i => ∃ j : Nat, j ≤ 12 ∧ i = .int .i64 ((j : Int) + 1) ∧ s = .int .i64 (Wd.sq R P j : Nat)) (fun _ i => 13 - (intOf i).toNat)
          case atStart => exact ⟨0, by omega, rfl, by rw [HQ0.out]; rfl⟩
          case round =>
            obtain ⟨j, hj, rfl, rfl⟩ := hrel
            have hql := HQl.out j
            by_cases hj12 : j < 12
            · have d2 : decide ((j : Int) + 1 ≤ 12) = true := decide_eq_true (by omega)
              have hb2 := bt_lt R (j + 1)
              have HQs := hid_of (HQ.out j)
              have hc := hid_of (hbit.out (j + 1) (by omega))
              generalize Wd.bt R (j + 1) = b at *
              obtain ⟨D, hD⟩ : ∃ D, (j + 1) / P = D := ⟨_, rfl⟩
              have hDl : D ≤ 12 := by rw [← hD]; exact Nat.le_trans (Nat.div_le_self _ _) (by omega)
              obtain ⟨hT1, hT2⟩ := tst j P D hD hDl
              rw [hD] at HQs
              have HDD := hid_of hD
              clear hD
              by_cases hc1 : D % 2 = 1
              · rw [if_pos hc1] at HQs
                rw [decide_eq_true hc1] at hT1 hT2
                have HC1 := hid_of hc1
                clear hc1
                go_wp2_with fail
                refine (hc.out _).mono ?_
                rintro e w1 ⟨rfl, rfl⟩
                go_wp2_with fail
                go_round
                case rel => exact ⟨j + 1, by omega, by go_num, by rw [HQs.out]; go_num⟩
                case measure => simp [intOf]; omega
              · rw [if_neg hc1] at HQs
                rw [decide_eq_false hc1] at hT1 hT2
                have HC1 := hid_of hc1
                clear hc1
                go_wp2_with fail
                go_round
                case rel => exact ⟨j + 1, by omega, by go_num, by rw [HQs.out]⟩
                case measure => simp [intOf]; omega
            · obtain rfl : j = 12 := by omega
              have d2 : decide (((12 : Nat) : Int) + 1 ≤ 12) = false := decide_eq_false (by omega)
              have HRs' := hid_of HRs.out
              generalize hSq : Wd.sq R P 12 = sv at *
              have hsm : ((sv : Int)).tmod 2 = (sv : Int) % 2 := Int.tmod_eq_emod_of_nonneg (Int.natCast_nonneg _)
              rw [HM.out] at HRs'
              by_cases ho : sv % 2 = 1
              · have ht : ((sv : Int) % 2 == 1) = true := by rw [beq_iff_eq]; omega
                have HF := hid_of (rgn_false R (show Wd.rgn R (m + 1) = false by rw [HRs'.out, decide_eq_true ho]; rfl) 4 (by omega))
                have HG := hid_of (show Wd.rg R = false by rw [HRg.out, HF.out]; rfl)
                clear ho
                go_wp2_with fail
                go_ret
                exact ⟨ret_bool HG.out.symm, rfl⟩
              · have ht : ((sv : Int) % 2 == 1) = false := by rw [beq_eq_false_iff_ne]; omega
                have HF := hid_of (show Wd.rgn R (m + 1) = true by rw [HRs'.out, decide_eq_false ho]; rfl)
                clear ho
                go_wp2_with fail
                go_round
                case rel => exact ⟨m + 1, by omega, by rw [HP.out]; go_num, HF⟩
                case measure => simp [intOf]; omega
        · obtain rfl : m = 4 := by omega
          have d1 : decide (((2 ^ 4 : Nat) : Int) ≤ 8) = false := by decide
          have hsm : ((S1 : Int)).tmod 2 = (S1 : Int) % 2 := Int.tmod_eq_emod_of_nonneg (Int.natCast_nonneg _)
          have HSl := HS.out
          rw [HM.out] at HRg
          by_cases ho : S1 % 2 = 0
          · rw [ho] at HRg
            have ht : ((S1 : Int) % 2 == 0) = true := by rw [beq_iff_eq]; omega
            by_cases hl : R < 8192
            · have HG := hid_of (show Wd.rg R = true by rw [HRg.out, ble_t (show R + 1 ≤ 8192 by omega)]; rfl)
              clear ho
              go_wp2_with fail
              go_ret
              exact ⟨ret_bool (by rw [HG.out]; simp; omega), rfl⟩
            · have HG := hid_of (show Wd.rg R = false by rw [HRg.out, ble_f (show ¬ R + 1 ≤ 8192 by omega)]; rfl)
              clear ho
              go_wp2_with fail
              go_ret
              exact ⟨ret_bool (by rw [HG.out]; simp; omega), rfl⟩
          · have HG := hid_of (show Wd.rg R = false by rw [HRg.out, beqz ho]; rfl)
            have ht : ((S1 : Int) % 2 == 0) = false := by rw [beq_eq_false_iff_ne]; omega
            clear ho
            go_wp2_with fail
            go_ret
            exact ⟨ret_bool HG.out.symm, rfl⟩
end Go.Proofs.YtiiickinlklelaaDoor
