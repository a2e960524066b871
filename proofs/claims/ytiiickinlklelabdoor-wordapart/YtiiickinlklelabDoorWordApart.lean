/- Proved: for every two bytes the statement WordApart of the program answers true, with no condition but that the tables lie as the program's text lays them: words of two bytes differ in at least four bits, and the xor of both is the word of the bytes' xor. -/
import Derived.Test.YtiiickinlklelabDoorLd
namespace Go.Proofs.YtiiickinlklelabDoor.wordApart
open Go.ChangeShapes Go.WideShapes Go.ChangeAt Go.RowKit
set_option linter.unusedVariables false
theorem own : ownKnob Tryd.prog.godebug = none := by kernel_rfl
theorem ret_true {b : Bool} (h : b = true) : Ending.returned (.bool b) = .returned (.bool true) := by rw [h]
theorem cnt_step (X k : Nat) (hX : X < 65536) : (bits .and .u16 ((X : Int) / 2 ^ k) 1 == 1) = decide (X / 2 ^ k % 2 = 1) := by
  have e0 : (X : Int) / 2 ^ k = ((X / 2 ^ k : Nat) : Int) := by push_cast; rfl
  have e1 := u16_and_nat (X / 2 ^ k) 1 (Nat.lt_of_le_of_lt (Nat.div_le_self _ _) hX) (by decide)
  rw [Nat.and_one_is_mod] at e1
  have e1' : bits .and .u16 ((X : Int) / 2 ^ k) 1 = ((X / 2 ^ k % 2 : Nat) : Int) := by rw [e0]; exact e1
  rw [e1', Bool.eq_iff_iff]
  simp
  omega
theorem cnt_succ (X k : Nat) : Wd.cnt X (k + 1) = Wd.cnt X k + X / 2 ^ k % 2 := rfl
theorem cnt_le (X : Nat) : ∀ k, Wd.cnt X k ≤ k
  | 0 => Nat.le_refl _
  | k + 1 => by
    have := cnt_le X k
    have h := Nat.mod_lt (X / 2 ^ k) (show 0 < 2 by decide)
    rw [cnt_succ]
    omega
theorem apart_at {a b : Nat} (ha : a < 256) (hb : b < 256) : Wd.wr a ^^^ Wd.wr b = Wd.wr (a ^^^ b) := by
  have := Wd.all_lt (Wd.all_lt Wd.apart_chk (i := a) ha) (i := b) hb
  exact Nat.eq_of_beq_eq_true this
theorem four_at {a : Nat} (ha : a < 256) (h0 : a ≠ 0) : 4 ≤ Wd.cnt (Wd.wr a) 16 := by
  have := Wd.all_lt Wd.four_chk (i := a) ha
  rw [beqz h0] at this
  exact Nat.le_of_ble_eq_true this
theorem wr_zero : Wd.wr 0 = 0 := by decide +kernel
theorem cnt_zero : Wd.cnt 0 16 = 0 := by decide +kernel
set_option maxRecDepth 100000 in
set_option maxHeartbeats 2000000 in
theorem walk (a0 a1 : Int) (w0 : (Lit.int .u8 a0).wf = true) (w1 : (Lit.int .u8 a1).wf = true) (w : World) (hG : Gl w) :
    Calls Tryd.prog 4 #[.int .u8 a0, .int .u8 a1] w fun e w' => e = .returned (.bool true) ∧ Below w.heap.size w w' := by
  obtain ⟨p0, q0⟩ := bounds_u8 w0
  obtain ⟨p1, q1⟩ := bounds_u8 w1
  obtain ⟨A, rfl⟩ := Int.eq_ofNat_of_zero_le p0
  obtain ⟨B, rfl⟩ := Int.eq_ofNat_of_zero_le p1
  have hA : A < 256 := by omega
  have hB : B < 256 := by omega
  have hX : A ^^^ B < 256 := Nat.xor_lt_two_pow (n := 8) hA hB
  have HG := hid_of hG
  have h2 := hG.sz
  have ca := hid_of (fun W (h : Gl W) => write_any A hA W h)
  have cb := hid_of (fun W (h : Gl W) => write_any B hB W h)
  have cx := hid_of (fun W (h : Gl W) => write_any (A ^^^ B) hX W h)
  have hx := u16_xor_nat (Wd.wr A) (Wd.wr B) (by have := wr_lt hA; omega) (by have := wr_lt hB; omega)
  rw [apart_at hA hB] at hx
  have hx8 := u8_xor_nat A B hA hB
  have hY : Wd.wr (A ^^^ B) < 65536 := by have := wr_lt hX; omega
  have HC : Hid (Wd.cnt (Wd.wr (A ^^^ B)) 16 = 0 ∧ A = B ∨ 4 ≤ Wd.cnt (Wd.wr (A ^^^ B)) 16 ∧ A ≠ B) := by
    by_cases e : A = B
    · left
      subst e
      rw [Nat.xor_self, wr_zero, cnt_zero]
      exact ⟨rfl, rfl⟩
    · right
      refine ⟨four_at hX (fun c => e ?_), e⟩
      have h := congrArg (fun z => z ^^^ B) c
      simpa [Nat.xor_assoc] using h
  clear hG w0 w1 p0 p1
  generalize Wd.wr (A ^^^ B) = Y at *
  generalize Wd.wr A = VA at *
  generalize Wd.wr B = VB at *
  generalize A ^^^ B = X at *
  go_enter Tryd.func4, Tryd.ntmps4
  go_wp2_with fail
  refine (ca.out _ HG.out).mono ?_
  rintro e w1 ⟨rfl, hb1⟩
  have B1 := hid_of hb1
  clear hb1
  go_wp2_with fail
  refine (cb.out _ (HG.out.below h2 B1.out)).mono ?_
  rintro e w2 ⟨rfl, hb2⟩
  have B2 := hid_of (B1.out.trans (hb2.mono B1.out.size))
  clear hb2
  go_wp2_with fail
  go_loop [6, 7] (fun n i => ∃ k : Nat, k ≤ 16 ∧ i = .int .i64 k ∧ n = .int .i64 (Wd.cnt Y k : Nat)) (fun _ i => 16 - (intOf i).toNat)
  case atStart => exact ⟨0, by omega, rfl, rfl⟩
  case round =>
    obtain ⟨k, hk, rfl, rfl⟩ := hrel
    have hcl := cnt_le Y k
    by_cases hlt : k < 16
    · have hs := cnt_step Y k hY
      have HS := hid_of (cnt_succ Y k)
      by_cases hbit : Y / 2 ^ k % 2 = 1
      · rw [decide_eq_true hbit] at hs
        have HT := hid_of (show Wd.cnt Y (k + 1) = Wd.cnt Y k + 1 by rw [HS.out, hbit])
        clear hbit HS
        go_wp2_with fail
        go_round
        case rel => exact ⟨k + 1, by omega, by go_num, by rw [HT.out]; go_num⟩
        case measure => simp [intOf]; omega
      · rw [decide_eq_false hbit] at hs
        have HT := hid_of (show Wd.cnt Y (k + 1) = Wd.cnt Y k by
          have h := Nat.mod_lt (Y / 2 ^ k) (show 0 < 2 by decide)
          rw [HS.out]; omega)
        clear hbit HS
        go_wp2_with fail
        go_round
        case rel => exact ⟨k + 1, by omega, by go_num, by rw [HT.out]⟩
        case measure => simp [intOf]; omega
    · obtain rfl : k = 16 := by omega
      rcases HC.out with ⟨h0, he⟩ | ⟨h4, hne⟩
      · have d1 : ((A : Int) == (B : Int)) = true := by rw [beq_iff_eq]; omega
        have d2 : (((Wd.cnt Y 16 : Nat) : Int) == 0) = true := by rw [beq_iff_eq]; omega
        clear h0 he
        go_wp2_with fail
        refine (begun_any _ (HG.out.below h2 B2.out)).mono ?_
        rintro e w3 ⟨rfl, hb3⟩
        have B3 := hid_of (B2.out.trans (hb3.mono B2.out.size))
        clear hb3
        go_wp2_with fail
        refine (cx.out _ (HG.out.below h2 B3.out)).mono ?_
        rintro e w4 ⟨rfl, hb4⟩
        have B4 := hid_of (B3.out.trans (hb4.mono B3.out.size))
        clear hb4
        go_wp2_with fail
        go_ret
        exact ⟨ret_true rfl, B4.out⟩
      · have d1 : ((A : Int) == (B : Int)) = false := by rw [beq_eq_false_iff_ne]; omega
        have d2 : ((A : Int) != (B : Int)) = true := by rw [bne_iff_ne]; omega
        have d3 : decide (((Wd.cnt Y 16 : Nat) : Int) ≥ 4) = true := decide_eq_true (by omega)
        clear h4 hne
        go_wp2_with fail
        refine (begun_any _ (HG.out.below h2 B2.out)).mono ?_
        rintro e w3 ⟨rfl, hb3⟩
        have B3 := hid_of (B2.out.trans (hb3.mono B2.out.size))
        clear hb3
        go_wp2_with fail
        refine (cx.out _ (HG.out.below h2 B3.out)).mono ?_
        rintro e w4 ⟨rfl, hb4⟩
        have B4 := hid_of (B3.out.trans (hb4.mono B3.out.size))
        clear hb4
        go_wp2_with fail
        go_ret
        exact ⟨ret_true rfl, B4.out⟩

set_option maxRecDepth 100000 in
theorem lifted (os : Os) (started : os.Started) (H : Type) (enc : TypeId × Value → H) :
    ReturnsInHanded {} Tryd.checked os 4 .any (fun w args => (Rows.wordApartSpec.pre enc Tryd.prog Tryd.f4 [] false w args ∧ laidMetH Tryd.prog laid2 w) ∧ sizedMet enc Tryd.prog Tryd.f4 (OpenSpec.ofChange Rows.wordApartSpec) false w args)
      (Rows.wordApartSpec.post enc Tryd.prog Tryd.f4 false true false false) := by
  refine returnsInHanded_of_change_and (C := Tryd.checked) (X := fun w _ => laidMetH Tryd.prog laid2 w) (fun _ _ _ hh h => h.of_heap hh) own started (by kernel_rfl) Tryd.func4
    (ChangeSpec.witness_shaped (enc := enc) (C := Tryd.checked) (os := os) (X := fun w _ => laidMetH Tryd.prog laid2 w) false (World.doorLaid Tryd.prog 400 os) #[.int .u8 0, .int .u8 0] 8 rfl (World.shaped_of_RefB (by kernel_rfl) (by kernel_rfl)) (by kernel_rfl) (by kernel_rfl) (by kernel_rfl) (door_met os _)) ?_
  intro W base args ds gs before hval0 hW _ _ hL _
  have hval : ∀ (j : Nat) t v, Tryd.f4.params[j]? = some t → args[j]? = some v → Value.okWide Tryd.prog W .any base t v := hval0
  have hW' := hW
  obtain ⟨p, q, hA0, hV, rfl, hfz, hnd⟩ := hW
  have hA : DataW.TrodAll enc Tryd.prog W 0 (fun _ => true) true Tryd.f4.params.toList args.toList ds p := hA0
  rw [Tryd.params4] at hA hval
  obtain ⟨v0, vs0, d0, ds0, p0, q0, hargs, rfl, rfl, h0, r0⟩ := trodAll_cons hA
  obtain ⟨v1, vs1, d1, ds1, p1, q1, rfl, rfl, rfl, h1, r1⟩ := trodAll_cons r0
  obtain ⟨rfl, rfl, rfl⟩ := trodAll_nil r1
  obtain rfl : args = #[v0, v1] := by cases args; simp_all
  obtain ⟨rfl, rfl⟩ := trodVars_none hV
  obtain ⟨a0, rfl, rfl, rfl, w0⟩ := open_int Tryd.underlying5 (hval 0 5 v0 rfl rfl) h0
  obtain ⟨a1, rfl, rfl, rfl, w1⟩ := open_int Tryd.underlying5 (hval 1 5 v1 rfl rfl) h1
  clear hA0 hval0
  simp only [List.append_nil] at hW'
  refine (walk a0 a1 w0 w1 W (of_laid hL)).mono fun e W' ⟨he, hg⟩ => ?_
  subst he
  exact ⟨_, rfl, _, _, _, [], [], [], hW', trodAll_mk1 (shut_bool Tryd.underlying4 _), (trodAll_cons_mk (shut_int Tryd.underlying5 w0) (trodAll_cons_mk (shut_int Tryd.underlying5 w1) trodAll_mk0)), rfl, hg.frame _, fun h => by cases h⟩
theorem over : Rows.WordApartSaid :=
  OpenClaim.holds_of_wide 4 Tryd.f4 rfl rfl rfl rfl rfl rfl rfl ⟨rfl, rfl, rfl, rfl, rfl⟩ rfl rfl rfl rfl rfl (by kernel_rfl) Tryd.func4 (by kernel_rfl)
    (of_decide_eq_true (by kernel_rfl)) (by unfold Func.isWrapper; first | (rw [if_pos (by decide +kernel)]; kernel_rfl) | (rw [if_neg (by decide +kernel)]; exact ⟨rfl, rfl⟩))
    (fun os started H enc _ => lifted os started H enc)
/-- THE TIED CARD -/
theorem proved : Rows.WordApartCardSaid :=
  Claim7.holds_tied_plain_at .later [] [.data, .data] true (true, "87ebca35141552c93e93adfae79a6d263e31723d07d2413a3a2d239b54e77150") false
    over (fun _ h => by cases h) (by kernel_rfl) (fun _ h => by cases h) wordApart_row_tie rfl ⟨rfl, rfl⟩ (by kernel_rfl) rfl
    (fun f fn hf hfn => by
      obtain rfl : f = 4 := Option.some.inj ((show Tryd.prog.funcNamed "supercargo/supercargolaw.WordApart" = some 4 by kernel_rfl).symm.trans hf) |>.symm
      obtain rfl : fn = Tryd.f4 := (Option.some.inj (Tryd.func4.symm.trans hfn)).symm
      exact ⟨by kernel_rfl, fun j t ht => by
        rw [Tryd.params4] at ht
        have hm : t ∈ [5, 5] := by simpa using Array.mem_of_getElem? ht
        have hall : ([5, 5].all fun u => !Tryd.prog.wantsStandIn u) = true := by kernel_rfl
        exact (show Tryd.prog.wantsStandIn t = false by simpa using List.all_eq_true.1 hall t hm)⟩)
    (by kernel_rfl)
#print axioms proved
end Go.Proofs.YtiiickinlklelabDoor.wordApart
