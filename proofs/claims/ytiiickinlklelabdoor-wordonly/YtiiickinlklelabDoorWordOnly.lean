/- Proved: for every word of sixteen bits the statement WordOnly of the program answers true, with no condition but that the tables lie as the program's text lays them: what is read is a word, but for as many bits as were mended. -/
import Derived.Test.YtiiickinlklelabDoorLd
namespace Go.Proofs.YtiiickinlklelabDoor.wordOnly
open Go.ChangeShapes Go.WideShapes Go.ChangeAt Go.RowKit
set_option linter.unusedVariables false
theorem own : ownKnob Tryd.prog.godebug = none := by kernel_rfl
theorem ret_true {b : Bool} (h : b = true) : Ending.returned (.bool b) = .returned (.bool true) := by rw [h]
theorem cnt_step (X k : Nat) (hX : X < 65536) : (bits .and .u16 ((X : Int) / 2 ^ k) 1 == 1) = decide (X / 2 ^ k % 2 = 1) := by
  have e0 : (X : Int) / 2 ^ k = ((X / 2 ^ k : Nat) : Int) := by push_cast; rfl
  have e1 := u16_and_nat (X / 2 ^ k) 1 (Nat.lt_of_le_of_lt (Nat.div_le_self _ _) hX) (by decide)
  rw [Nat.and_one_is_mod] at e1
  have e1' : bits .and .u16 ((X : Int) / 2 ^ k) 1 = ((X / 2 ^ k % 2 : Nat) : Int) := by rw [e0]; exact e1
  rw [e1', Bool.eq_iff_iff]
  simp
  omega
theorem cnt_succ (X k : Nat) : Wd.cnt X (k + 1) = Wd.cnt X k + X / 2 ^ k % 2 := rfl
theorem cnt_le (X : Nat) : ∀ k, Wd.cnt X k ≤ k
  | 0 => Nat.le_refl _
  | k + 1 => by
    have := cnt_le X k
    have h := Nat.mod_lt (X / 2 ^ k) (show 0 < 2 by decide)
    rw [cnt_succ]
    omega
theorem rb_none {X : Nat} (h : Wd.rn X = 0) : Wd.rb X = 0 := by
  revert h
  unfold Wd.rn Wd.rn1 Wd.rb Wd.rb1
  cases Nat.ble 8192 X <;> cases Wd.od X <;> cases Nat.ble 13 (Wd.ft X) <;> cases Nat.beq (Wd.ft X) 0 <;> intro h <;> first | rfl | cases h
theorem only_at {X : Nat} (h : Wd.rn X ≠ 0) : Wd.rb X < 256 ∧ Wd.cnt (Wd.wr (Wd.rb X) ^^^ X) 16 + 1 = Wd.rn X := by
  by_cases hX : X < 8192
  · have := Wd.all_lt Wd.only_chk (i := X) hX
    rw [beqz h] at this
    simp only [cond_false, Bool.and_eq_true, Nat.ble_eq, Nat.beq_eq] at this
    exact ⟨by omega, this.2⟩
  · exfalso
    apply h
    unfold Wd.rn
    rw [ble_t (by omega)]
    rfl
set_option maxRecDepth 100000 in
set_option maxHeartbeats 2000000 in
theorem walk (a0 : Int) (w0 : (Lit.int .u16 a0).wf = true) (w : World) (hG : Gl w) :
    Calls Tryd.prog 6 #[.int .u16 a0] w fun e w' => e = .returned (.bool true) ∧ Below w.heap.size w w' := by
  obtain ⟨p0, q0⟩ := bounds_u16 w0
  obtain ⟨X, rfl⟩ := Int.eq_ofNat_of_zero_le p0
  have hX : X < 65536 := by omega
  have c1 := hid_of (read_any X hX w hG)
  have HG := hid_of hG
  have h2 := hG.sz
  have hn2 := rn_le X
  have HRm := hid_of (show rm X = (Wd.rn X : Int) - 1 from rfl)
  clear hG w0 p0 q0
  by_cases hz : Wd.rn X = 0
  · have hb0 := rb_none hz
    have hm : rm X = -1 := by rw [HRm.out, hz]; rfl
    rw [hb0, hm] at c1
    clear hz hb0 hm HRm hn2
    go_enter Tryd.func6, Tryd.ntmps6
    go_wp2_with fail
    refine c1.out.mono ?_
    rintro e w1 ⟨rfl, hb1⟩
    have B1 := hid_of hb1
    clear hb1
    go_wp2_with fail
    refine (begun_any _ (HG.out.below h2 B1.out)).mono ?_
    rintro e w2 ⟨rfl, hb2⟩
    have B2 := hid_of (B1.out.trans (hb2.mono B1.out.size))
    clear hb2
    go_wp2_with fail
    go_ret
    exact ⟨rfl, B2.out⟩
  · obtain ⟨hb, hc⟩ := only_at hz
    have hm0 : 0 ≤ rm X := by rw [HRm.out]; omega
    have hm1 : rm X ≤ 1 := by rw [HRm.out]; omega
    have HC := hid_of (show (Wd.cnt (Wd.wr (Wd.rb X) ^^^ X) 16 : Int) = rm X by rw [HRm.out]; omega)
    have hwx := wr_lt hb
    have hx := u16_xor_nat (Wd.wr (Wd.rb X)) X (by omega) hX
    have hY : Wd.wr (Wd.rb X) ^^^ X < 65536 := Nat.xor_lt_two_pow (n := 16) (by omega) hX
    have c2 := hid_of (fun W (h : Gl W) => write_any (Wd.rb X) hb W h)
    clear hc hz HRm hn2
    generalize Wd.wr (Wd.rb X) ^^^ X = Y at *
    generalize Wd.wr (Wd.rb X) = V at *
    generalize Wd.rb X = b at *
    generalize rm X = m at *
    have hd0 : decide (m < 0) = false := decide_eq_false (by omega)
    have hd1 : decide (m ≤ 1) = true := decide_eq_true (by omega)
    go_enter Tryd.func6, Tryd.ntmps6
    go_wp2_with fail
    refine c1.out.mono ?_
    rintro e w1 ⟨rfl, hb1⟩
    have B1 := hid_of hb1
    clear hb1
    go_wp2_with fail
    refine (begun_any _ (HG.out.below h2 B1.out)).mono ?_
    rintro e w2 ⟨rfl, hb2⟩
    have B2 := hid_of (B1.out.trans (hb2.mono B1.out.size))
    clear hb2
    go_wp2_with fail
    refine (c2.out _ (HG.out.below h2 B2.out)).mono ?_
    rintro e w3 ⟨rfl, hb3⟩
    have B3 := hid_of (B2.out.trans (hb3.mono B2.out.size))
    clear hb3
    go_wp2_with fail
    go_loop [6, 7] (fun n i => ∃ k : Nat, k ≤ 16 ∧ i = .int .i64 k ∧ n = .int .i64 (Wd.cnt Y k : Nat)) (fun _ i => 16 - (intOf i).toNat)
    case atStart => exact ⟨0, by omega, rfl, rfl⟩
    case round =>
      obtain ⟨k, hk, rfl, rfl⟩ := hrel
      have hcl := cnt_le Y k
      by_cases hlt : k < 16
      · have hs := cnt_step Y k hY
        have HS := hid_of (cnt_succ Y k)
        by_cases hbit : Y / 2 ^ k % 2 = 1
        · rw [decide_eq_true hbit] at hs
          have HT := hid_of (show Wd.cnt Y (k + 1) = Wd.cnt Y k + 1 by rw [HS.out, hbit])
          clear hbit HS
          go_wp2_with fail
          go_round
          case rel => exact ⟨k + 1, by omega, by go_num, by rw [HT.out]; go_num⟩
          case measure => simp [intOf]; omega
        · rw [decide_eq_false hbit] at hs
          have HT := hid_of (show Wd.cnt Y (k + 1) = Wd.cnt Y k by
            have h := Nat.mod_lt (Y / 2 ^ k) (show 0 < 2 by decide)
            rw [HS.out]; omega)
          clear hbit HS
          go_wp2_with fail
          go_round
          case rel => exact ⟨k + 1, by omega, by go_num, by rw [HT.out]⟩
          case measure => simp [intOf]; omega
      · obtain rfl : k = 16 := by omega
        have he : (((Wd.cnt Y 16 : Nat) : Int) == m) = true := by rw [beq_iff_eq]; exact HC.out
        go_wp2_with fail
        go_ret
        exact ⟨ret_true rfl, B3.out⟩

set_option maxRecDepth 100000 in
theorem lifted (os : Os) (started : os.Started) (H : Type) (enc : TypeId × Value → H) :
    ReturnsInHanded {} Tryd.checked os 6 .any (fun w args => (Rows.wordOnlySpec.pre enc Tryd.prog Tryd.f6 [] false w args ∧ laidMetH Tryd.prog laid2 w) ∧ sizedMet enc Tryd.prog Tryd.f6 (OpenSpec.ofChange Rows.wordOnlySpec) false w args)
      (Rows.wordOnlySpec.post enc Tryd.prog Tryd.f6 false true false false) := by
  refine returnsInHanded_of_change_and (C := Tryd.checked) (X := fun w _ => laidMetH Tryd.prog laid2 w) (fun _ _ _ hh h => h.of_heap hh) own started (by kernel_rfl) Tryd.func6
    (ChangeSpec.witness_shaped (enc := enc) (C := Tryd.checked) (os := os) (X := fun w _ => laidMetH Tryd.prog laid2 w) false (World.doorLaid Tryd.prog 400 os) #[.int .u16 0] 8 rfl (World.shaped_of_RefB (by kernel_rfl) (by kernel_rfl)) (by kernel_rfl) (by kernel_rfl) (by kernel_rfl) (door_met os _)) ?_
  intro W base args ds gs before hval0 hW _ _ hL _
  have hval : ∀ (j : Nat) t v, Tryd.f6.params[j]? = some t → args[j]? = some v → Value.okWide Tryd.prog W .any base t v := hval0
  have hW' := hW
  obtain ⟨p, q, hA0, hV, rfl, hfz, hnd⟩ := hW
  have hA : DataW.TrodAll enc Tryd.prog W 0 (fun _ => true) true Tryd.f6.params.toList args.toList ds p := hA0
  rw [Tryd.params6] at hA hval
  obtain ⟨v0, vs0, d0, ds0, p0, q0, hargs, rfl, rfl, h0, r0⟩ := trodAll_cons hA
  obtain ⟨rfl, rfl, rfl⟩ := trodAll_nil r0
  obtain rfl : args = #[v0] := by cases args; simp_all
  obtain ⟨rfl, rfl⟩ := trodVars_none hV
  obtain ⟨a0, rfl, rfl, rfl, w0⟩ := open_int Tryd.underlying22 (hval 0 22 v0 rfl rfl) h0
  clear hA0 hval0
  simp only [List.append_nil] at hW'
  refine (walk a0 w0 W (of_laid hL)).mono fun e W' ⟨he, hg⟩ => ?_
  subst he
  exact ⟨_, rfl, _, _, _, [], [], [], hW', trodAll_mk1 (shut_bool Tryd.underlying4 _), (trodAll_cons_mk (shut_int Tryd.underlying22 w0) trodAll_mk0), rfl, hg.frame _, fun h => by cases h⟩
theorem over : Rows.WordOnlySaid :=
  OpenClaim.holds_of_wide 6 Tryd.f6 rfl rfl rfl rfl rfl rfl rfl ⟨rfl, rfl, rfl, rfl, rfl⟩ rfl rfl rfl rfl rfl (by kernel_rfl) Tryd.func6 (by kernel_rfl)
    (of_decide_eq_true (by kernel_rfl)) (by unfold Func.isWrapper; first | (rw [if_pos (by decide +kernel)]; kernel_rfl) | (rw [if_neg (by decide +kernel)]; exact ⟨rfl, rfl⟩))
    (fun os started H enc _ => lifted os started H enc)
/-- THE TIED CARD -/
theorem proved : Rows.WordOnlyCardSaid :=
  Claim7.holds_tied_plain_at .later [] [.data, .data] true (true, "87ebca35141552c93e93adfae79a6d263e31723d07d2413a3a2d239b54e77150") false
    over (fun _ h => by cases h) (by kernel_rfl) (fun _ h => by cases h) wordOnly_row_tie rfl ⟨rfl, rfl⟩ (by kernel_rfl) rfl
    (fun f fn hf hfn => by
      obtain rfl : f = 6 := Option.some.inj ((show Tryd.prog.funcNamed "supercargo/supercargolaw.WordOnly" = some 6 by kernel_rfl).symm.trans hf) |>.symm
      obtain rfl : fn = Tryd.f6 := (Option.some.inj (Tryd.func6.symm.trans hfn)).symm
      exact ⟨by kernel_rfl, fun j t ht => by
        rw [Tryd.params6] at ht
        have hm : t ∈ [22] := by simpa using Array.mem_of_getElem? ht
        have hall : ([22].all fun u => !Tryd.prog.wantsStandIn u) = true := by kernel_rfl
        exact (show Tryd.prog.wantsStandIn t = false by simpa using List.all_eq_true.1 hall t hm)⟩)
    (by kernel_rfl)
#print axioms proved
end Go.Proofs.YtiiickinlklelabDoor.wordOnly
