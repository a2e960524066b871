/- What the reference's ReadWord answers: the program's own reading, for every word. -/
import Derived.Test.YtiiickinlklelaaDoorRby
namespace Go.Proofs.YtiiickinlklelaaDoor
open Go.ChangeShapes Go.WideShapes Go.ChangeAt Go.RowKit Go.Shelf
theorem rg_at {R : Nat} (h : R < 8192) : Wd.rg R = (!Wd.od R && Nat.beq (Wd.ft R) 0) := by
  have := Wd.all_lt Wd.rg_chk (i := R) h
  revert this
  cases Wd.od R <;> cases Nat.beq (Wd.ft R) 0 <;> cases Wd.rg R <;> decide
theorem rv_at {R : Nat} (h : R < 8192) : Wd.rv R 8 = Wd.bo R 8 := Nat.eq_of_beq_eq_true (Wd.all_lt Wd.rv_chk (i := R) h)
theorem lin_at {R i : Nat} (h : R < 8192) (hi : i < 13) : Wd.ft (R ^^^ 2 ^ i) = Wd.ft R ^^^ i ∧ Wd.od (R ^^^ 2 ^ i) = !Wd.od R := by
  have h1 := Wd.all_lt (Wd.all_lt Wd.lin_chk (i := R) h) (i := i) (by omega)
  rw [ble_f (show ¬ 13 ≤ i by omega), cond_false] at h1
  have e : Wd.od (R.xor (Nat.pow 2 i)) = Wd.od (R ^^^ 2 ^ i) := rfl
  have e2 : Wd.ft (R.xor (Nat.pow 2 i)) = Wd.ft (R ^^^ 2 ^ i) := rfl
  rw [e, e2] at h1
  cases hq : Nat.beq (Wd.ft (R ^^^ 2 ^ i)) ((Wd.ft R).xor i) with
  | false => rw [hq] at h1; cases h1
  | true =>
    rw [hq] at h1
    refine ⟨Nat.eq_of_beq_eq_true hq, ?_⟩
    revert h1
    cases Wd.od R <;> cases Wd.od (R ^^^ 2 ^ i) <;> decide
theorem xor_lt13 {R i : Nat} (h : R < 8192) (hi : i < 13) : R ^^^ 2 ^ i < 8192 :=
  Nat.xor_lt_two_pow (n := 13) h (Nat.pow_lt_pow_right (m := i) (n := 13) (by decide) hi)
theorem xor_z (a b : Nat) : a ^^^ b = 0 ↔ a = b := by
  constructor
  · intro c
    have h := congrArg (fun z => z ^^^ b) c
    simpa [Nat.xor_assoc] using h
  · intro h; rw [h, Nat.xor_self]
/-- a word with bit i turned is right, just if it was odd and i is its fault -/
theorem rg_turn {R i : Nat} (h : R < 8192) (hi : i < 13) : Wd.rg (R ^^^ 2 ^ i) = (Wd.od R && decide (Wd.ft R = i)) := by
  rw [rg_at (xor_lt13 h hi), (lin_at h hi).1, (lin_at h hi).2]
  by_cases e : Wd.ft R = i
  · rw [e, Nat.xor_self, decide_eq_true rfl]
    cases Wd.od R <;> rfl
  · rw [beqz (fun c => e ((xor_z _ _).1 c)), decide_eq_false e]
    cases Wd.od R <;> rfl
theorem xor16 (a i : Nat) (ha : a < 8192) (hi : i < 13) : bits .xor .u16 (a : Int) (IntKind.u16.wrap (2 ^ i)) = ((a ^^^ 2 ^ i : Nat) : Int) := by
  have h : (2 : Nat) ^ i < 65536 := Nat.pow_lt_pow_right (m := i) (n := 16) (by decide) (by omega)
  have e : IntKind.u16.wrap (2 ^ i) = ((2 ^ i : Nat) : Int) := by
    have e1 : (2 : Int) ^ i = ((2 ^ i : Nat) : Int) := by push_cast; rfl
    rw [e1, IntKind.wrap_u16]
    clear e1
    generalize (2 : Nat) ^ i = P at h ⊢
    omega
  rw [e]
  exact u16_xor_nat a (2 ^ i) (by omega) h
set_option maxRecDepth 100000 in
set_option maxHeartbeats 2000000 in
theorem readWord_any (R : Nat) (hR : R < 65536) (w : World) :
    Calls Tryd.prog 7 #[.int .u16 R] w fun e w' => e = .returned (.tuple #[.int .u8 (Wd.rb R : Nat), .int .i64 (rm R)]) ∧ Below w.heap.size w w' := by
  have HB := hid_of (show Wd.rb R = cond (Nat.ble 8192 R) 0 (Wd.rb1 R (Wd.ft R)) from rfl)
  have HN := hid_of (show rm R = ((cond (Nat.ble 8192 R) 0 (Wd.rn1 R (Wd.ft R)) : Nat) : Int) - 1 from rfl)
  by_cases hge : 8192 ≤ R
  · have e1 : Wd.rb R = 0 := by rw [HB.out, ble_t hge]; rfl
    have e2 : rm R = -1 := by rw [HN.out, ble_t hge]; rfl
    rw [e1, e2]
    clear e1 e2 HB HN
    have d1 : decide ((R : Int) ≥ 8192) = true := decide_eq_true (by omega)
    go_enter Tryd.func7, Tryd.ntmps7
    go_wp2_with fail
    go_ret2
    exact ⟨rfl, Below.refl _ _⟩
  · rw [ble_f hge] at HB HN
    have hl : R < 8192 := by omega
    have d1 : decide ((R : Int) ≥ 8192) = false := decide_eq_false (by omega)
    have hr := hid_of (fun W => right_any R hR W)
    rw [rg_at hl] at hr
    have HB1 := hid_of (show Wd.rb R = Wd.rb1 R (Wd.ft R) from HB.out)
    have HN1 := hid_of (show rm R = (Wd.rn1 R (Wd.ft R) : Int) - 1 from HN.out)
    unfold Wd.rb1 at HB1
    unfold Wd.rn1 at HN1
    have HT := hid_of (fun i hi => rg_turn (R := R) (i := i) hl hi)
    have HL := hid_of (fun i hi => xor_lt13 (R := R) (i := i) hl hi)
    have HX := hid_of (fun i hi => xor16 R i hl hi)
    have hbd := hid_of (show ∀ i, i < 13 → ∀ W, Calls Tryd.prog 17 #[.int .u16 (R ^^^ 2 ^ i : Nat)] W fun e w' => e = .returned (.int .u8 (Wd.bo (R ^^^ 2 ^ i) 8 : Nat)) ∧ Below W.heap.size W w' from fun i hi W => by
      rw [← rv_at (HL.out i hi)]
      exact refByte_any (R ^^^ 2 ^ i) (by have := HL.out i hi; omega) W)
    have hrd := hid_of (fun i (hi : i < 13) W => right_any (R ^^^ 2 ^ i) (by have := HL.out i hi; omega) W)
    have hb0 := hid_of (show ∀ W, Calls Tryd.prog 17 #[.int .u16 (R : Nat)] W fun e w' => e = .returned (.int .u8 (Wd.bo R 8 : Nat)) ∧ Below W.heap.size W w' from fun W => by
      rw [← rv_at hl]
      exact refByte_any R hR W)
    clear HB HN hge
    by_cases hg : Wd.od R = false ∧ Wd.ft R = 0
    · rw [hg.1, hg.2] at hr HB1 HN1
      have e1 : Wd.rb R = Wd.bo R 8 := HB1.out
      have e2 : rm R = 0 := HN1.out
      rw [e1, e2]
      clear e1 e2 hg HB1 HN1 HT
      go_enter Tryd.func7, Tryd.ntmps7
      go_wp2_with fail
      refine (hr.out _).mono ?_
      rintro e w1 ⟨rfl, rfl⟩
      go_wp2_with fail
      refine (hb0.out _).mono ?_
      rintro e w2 ⟨rfl, hb2⟩
      go_wp2_with fail
      go_ret2
      exact ⟨rfl, hb2⟩
    · have hrf : (!Wd.od R && Nat.beq (Wd.ft R) 0) = false := by
        cases h1 : Wd.od R with
        | true => rfl
        | false => rw [beqz (fun c => hg ⟨h1, c⟩)]; rfl
      rw [hrf] at hr
      have HGo := hid_of hg
      clear hg hrf
      go_enter Tryd.func7, Tryd.ntmps7
      go_wp2_with fail
      refine (hr.out _).mono ?_
      rintro e w1 ⟨rfl, rfl⟩
      go_wp2_with fail
      go_loop [4] (fun i => ∃ k : Nat, k ≤ 13 ∧ i = .int .i64 (k : Nat) ∧ Hid (∀ j, j < k → ¬ (Wd.od R = true ∧ Wd.ft R = j))) (fun i => 13 - (intOf i).toNat)
      case atStart => exact ⟨0, by omega, rfl, fun j hj => by omega⟩
      case round =>
        obtain ⟨k, hk, rfl, HA⟩ := hrel
        by_cases hlt : k < 13
        · have hx := HX.out k hlt
          have hrk := hid_of (hrd.out k hlt)
          have hbk := hid_of (hbd.out k hlt)
          have HTk := hid_of (HT.out k hlt)
          have HXd := hid_of (show ∃ x, R ^^^ 2 ^ k = x from ⟨_, rfl⟩)
          have d2 : decide ((k : Int) ≤ 12) = true := decide_eq_true (by omega)
          by_cases hc : Wd.od R = true ∧ Wd.ft R = k
          · rw [hc.1, hc.2] at HTk HB1 HN1
            rw [HTk.out, decide_eq_true rfl] at hrk
            rw [ble_f (show ¬ 13 ≤ k by omega)] at HB1 HN1
            have e1 := hid_of (show Wd.rb R = Wd.bo (R ^^^ 2 ^ k) 8 from HB1.out)
            have e2 := hid_of (show rm R = 1 from HN1.out)
            clear hc HTk HB1 HN1 HXd HA
            generalize R ^^^ 2 ^ k = X at *
            go_wp2_with fail
            refine (hrk.out _).mono ?_
            rintro e w1 ⟨rfl, rfl⟩
            go_wp2_with fail
            refine (hbk.out _).mono ?_
            rintro e w2 ⟨rfl, hb2⟩
            go_wp2_with fail
            go_ret2
            exact ⟨by rw [e1.out, e2.out]; rfl, hb2⟩
          · have hf : (Wd.od R && decide (Wd.ft R = k)) = false := by
              cases h1 : Wd.od R with
              | false => rfl
              | true => rw [decide_eq_false (fun c => hc ⟨h1, c⟩)]; rfl
            rw [HTk.out, hf] at hrk
            have HC := hid_of hc
            clear hc hf HTk HXd
            generalize R ^^^ 2 ^ k = X at *
            go_wp2_with fail
            refine (hrk.out _).mono ?_
            rintro e w1 ⟨rfl, rfl⟩
            go_wp2_with fail
            go_round
            case rel => exact ⟨k + 1, by omega, by go_num, fun j hj => by
              by_cases e : j = k
              · rw [e]; exact HC.out
              · exact HA.out j (by omega)⟩
            case measure => simp [intOf]; omega
        · obtain rfl : k = 13 := by omega
          have HE := hid_of (show Wd.rb R = 0 ∧ rm R = -1 by
            cases h1 : Wd.od R with
            | false =>
              rw [h1, beqz (fun c => HGo.out ⟨h1, c⟩)] at HB1 HN1
              exact ⟨HB1.out, HN1.out⟩
            | true =>
              have h13 : 13 ≤ Wd.ft R := by
                by_cases c : Wd.ft R < 13
                · exact absurd ⟨h1, rfl⟩ (HA.out _ c)
                · omega
              rw [h1, ble_t h13] at HB1 HN1
              exact ⟨HB1.out, HN1.out⟩)
          have d2 : decide (((13 : Nat) : Int) ≤ 12) = false := by decide
          go_wp2_with fail
          go_ret2
          exact ⟨by rw [HE.out.1, HE.out.2]; rfl, Below.refl _ _⟩
end Go.Proofs.YtiiickinlklelaaDoor
