/- Proved: for every byte and every two numbers the statement WordMends of the program answers true, with no condition but that the tables lie as the program's text lays them: one bit may turn, and is mended; if two turn, it is seen. -/
import Derived.Test.YtiiickinlklelabDoorLd
namespace Go.Proofs.YtiiickinlklelabDoor.wordMends
open Go.ChangeShapes Go.WideShapes Go.ChangeAt Go.RowKit
set_option linter.unusedVariables false
theorem own : ownKnob Tryd.prog.godebug = none := by kernel_rfl
theorem ret_true {b : Bool} (h : b = true) : Ending.returned (.bool b) = .returned (.bool true) := by rw [h]
theorem rb_none {X : Nat} (h : Wd.rn X = 0) : Wd.rb X = 0 := by
  revert h
  unfold Wd.rn Wd.rn1 Wd.rb Wd.rb1
  cases Nat.ble 8192 X <;> cases Wd.od X <;> cases Nat.ble 13 (Wd.ft X) <;> cases Nat.beq (Wd.ft X) 0 <;> intro h <;> first | rfl | cases h
theorem back_at {b : Nat} (hb : b < 256) : Wd.rb (Wd.wr b) = b ∧ rm (Wd.wr b) = 0 := by
  have := Wd.all_lt Wd.back_chk (i := b) hb
  simp only [Bool.and_eq_true, Nat.beq_eq] at this
  exact ⟨this.1.1, by unfold rm; rw [this.1.2]; rfl⟩
theorem one_at {b i : Nat} (hb : b < 256) (hi : i < 13) : Wd.rb (Wd.wr b ^^^ 2 ^ i) = b ∧ rm (Wd.wr b ^^^ 2 ^ i) = 1 := by
  have := Wd.all_lt (Wd.all_lt Wd.one_chk (i := b) hb) (i := i) (by omega)
  rw [ble_f (show ¬ 13 ≤ i by omega)] at this
  simp only [cond_false, Bool.and_eq_true, Nat.beq_eq] at this
  exact ⟨this.1, by unfold rm; rw [show Wd.rn (Wd.wr b ^^^ 2 ^ i) = 2 from this.2]; rfl⟩
theorem two_at {b i k : Nat} (hb : b < 256) (hi : i < 13) (hk : k < 13) (hn : i ≠ k) : Wd.rb (Wd.wr b ^^^ 2 ^ i ^^^ 2 ^ k) = 0 ∧ rm (Wd.wr b ^^^ 2 ^ i ^^^ 2 ^ k) = -1 := by
  have h1 := Wd.all_lt (Wd.all_lt Wd.two_chk (i := b) hb) (i := i) (by omega)
  rw [ble_f (show ¬ 13 ≤ i by omega), cond_false] at h1
  have h2 := Wd.all_lt h1 (i := k) (by omega)
  rw [ble_f (show ¬ 13 ≤ k by omega), show Nat.beq i k = false from Bool.eq_false_iff.2 (fun c => hn (Nat.eq_of_beq_eq_true c))] at h2
  have h3 : Wd.rn (Wd.wr b ^^^ 2 ^ i ^^^ 2 ^ k) = 0 := Nat.eq_of_beq_eq_true h2
  exact ⟨rb_none h3, by unfold rm; rw [h3]; rfl⟩
theorem xor_pow (a i : Nat) (ha : a < 65536) (hi : i < 16) : bits .xor .u16 (a : Int) (IntKind.u16.wrap (2 ^ i)) = ((a ^^^ 2 ^ i : Nat) : Int) ∧ a ^^^ 2 ^ i < 65536 := by
  have h : (2 : Nat) ^ i < 65536 := Nat.pow_lt_pow_right (m := i) (n := 16) (by decide) hi
  have e : IntKind.u16.wrap (2 ^ i) = ((2 ^ i : Nat) : Int) := by
    have e1 : (2 : Int) ^ i = ((2 ^ i : Nat) : Int) := by push_cast; rfl
    rw [e1, IntKind.wrap_u16]
    clear e1
    generalize (2 : Nat) ^ i = P at h ⊢
    omega
  rw [e]
  exact ⟨u16_xor_nat a (2 ^ i) ha h, Nat.xor_lt_two_pow (n := 16) ha h⟩
set_option maxRecDepth 100000 in
set_option maxHeartbeats 2000000 in
theorem out_any (A : Nat) (hA : A < 256) (i k : Int) (w : World) (hG : Gl w) (h : i < 0 ∨ (0 ≤ i ∧ 12 < i) ∨ (0 ≤ i ∧ i ≤ 12 ∧ k < 0) ∨ (0 ≤ i ∧ i ≤ 12 ∧ 0 ≤ k ∧ 12 < k) ∨ (0 ≤ i ∧ i ≤ 12 ∧ i = k)) :
    Calls Tryd.prog 3 #[.int .u8 A, .int .i64 i, .int .i64 k] w fun e w' => e = .returned (.bool true) ∧ Below w.heap.size w w' := by
  have HG := hid_of hG
  have h2 := hG.sz
  have ca := hid_of (write_any A hA w hG)
  have hV : Wd.wr A < 65536 := by have := wr_lt hA; omega
  have cr := hid_of (fun W (h : Gl W) => read_any (Wd.wr A) hV W h)
  rw [(back_at hA).1, (back_at hA).2] at cr
  generalize Wd.wr A = V at *
  have hb1 : ((A : Int) != (A : Int)) = false := by simp
  clear hG
  rcases h with h | h | h | h | h
  · have d1 : decide (i < 0) = true := decide_eq_true (by omega)
    go_enter Tryd.func3, Tryd.ntmps3
    go_wp2_with fail
    refine ca.out.mono ?_
    rintro e w1 ⟨rfl, hb1⟩
    have B1 := hid_of hb1
    clear hb1
    go_wp2_with fail
    refine (cr.out _ (HG.out.below h2 B1.out)).mono ?_
    rintro e w2 ⟨rfl, hb2⟩
    have B2 := hid_of (B1.out.trans (hb2.mono B1.out.size))
    clear hb2
    go_wp2_with fail
    refine (begun_any _ (HG.out.below h2 B2.out)).mono ?_
    rintro e w3 ⟨rfl, hb3⟩
    have B3 := hid_of (B2.out.trans (hb3.mono B2.out.size))
    clear hb3
    go_wp2_with fail
    go_ret
    exact ⟨rfl, B3.out⟩
  · have d1 : decide (i < 0) = false := decide_eq_false (by omega)
    have d2 : decide (i > 12) = true := decide_eq_true (by omega)
    go_enter Tryd.func3, Tryd.ntmps3
    go_wp2_with fail
    refine ca.out.mono ?_
    rintro e w1 ⟨rfl, hb1⟩
    have B1 := hid_of hb1
    clear hb1
    go_wp2_with fail
    refine (cr.out _ (HG.out.below h2 B1.out)).mono ?_
    rintro e w2 ⟨rfl, hb2⟩
    have B2 := hid_of (B1.out.trans (hb2.mono B1.out.size))
    clear hb2
    go_wp2_with fail
    refine (begun_any _ (HG.out.below h2 B2.out)).mono ?_
    rintro e w3 ⟨rfl, hb3⟩
    have B3 := hid_of (B2.out.trans (hb3.mono B2.out.size))
    clear hb3
    go_wp2_with fail
    go_ret
    exact ⟨rfl, B3.out⟩
  · have d1 : decide (i < 0) = false := decide_eq_false (by omega)
    have d2 : decide (i > 12) = false := decide_eq_false (by omega)
    have d3 : decide (k < 0) = true := decide_eq_true (by omega)
    go_enter Tryd.func3, Tryd.ntmps3
    go_wp2_with fail
    refine ca.out.mono ?_
    rintro e w1 ⟨rfl, hb1⟩
    have B1 := hid_of hb1
    clear hb1
    go_wp2_with fail
    refine (cr.out _ (HG.out.below h2 B1.out)).mono ?_
    rintro e w2 ⟨rfl, hb2⟩
    have B2 := hid_of (B1.out.trans (hb2.mono B1.out.size))
    clear hb2
    go_wp2_with fail
    refine (begun_any _ (HG.out.below h2 B2.out)).mono ?_
    rintro e w3 ⟨rfl, hb3⟩
    have B3 := hid_of (B2.out.trans (hb3.mono B2.out.size))
    clear hb3
    go_wp2_with fail
    go_ret
    exact ⟨rfl, B3.out⟩
  · have d1 : decide (i < 0) = false := decide_eq_false (by omega)
    have d2 : decide (i > 12) = false := decide_eq_false (by omega)
    have d3 : decide (k < 0) = false := decide_eq_false (by omega)
    have d4 : decide (k > 12) = true := decide_eq_true (by omega)
    go_enter Tryd.func3, Tryd.ntmps3
    go_wp2_with fail
    refine ca.out.mono ?_
    rintro e w1 ⟨rfl, hb1⟩
    have B1 := hid_of hb1
    clear hb1
    go_wp2_with fail
    refine (cr.out _ (HG.out.below h2 B1.out)).mono ?_
    rintro e w2 ⟨rfl, hb2⟩
    have B2 := hid_of (B1.out.trans (hb2.mono B1.out.size))
    clear hb2
    go_wp2_with fail
    refine (begun_any _ (HG.out.below h2 B2.out)).mono ?_
    rintro e w3 ⟨rfl, hb3⟩
    have B3 := hid_of (B2.out.trans (hb3.mono B2.out.size))
    clear hb3
    go_wp2_with fail
    go_ret
    exact ⟨rfl, B3.out⟩
  · obtain ⟨g1, g2, rfl⟩ := h
    have d1 : decide (i < 0) = false := decide_eq_false (by omega)
    have d2 : decide (i > 12) = false := decide_eq_false (by omega)
    go_enter Tryd.func3, Tryd.ntmps3
    go_wp2_with fail
    refine ca.out.mono ?_
    rintro e w1 ⟨rfl, hb1⟩
    have B1 := hid_of hb1
    clear hb1
    go_wp2_with fail
    refine (cr.out _ (HG.out.below h2 B1.out)).mono ?_
    rintro e w2 ⟨rfl, hb2⟩
    have B2 := hid_of (B1.out.trans (hb2.mono B1.out.size))
    clear hb2
    go_wp2_with fail
    refine (begun_any _ (HG.out.below h2 B2.out)).mono ?_
    rintro e w3 ⟨rfl, hb3⟩
    have B3 := hid_of (B2.out.trans (hb3.mono B2.out.size))
    clear hb3
    go_wp2_with fail
    go_ret
    exact ⟨rfl, B3.out⟩
set_option maxRecDepth 100000 in
set_option maxHeartbeats 2000000 in
theorem in_any (A : Nat) (hA : A < 256) (I K : Nat) (hI : I < 13) (hK : K < 13) (hn : I ≠ K) (w : World) (hG : Gl w) :
    Calls Tryd.prog 3 #[.int .u8 A, .int .i64 I, .int .i64 K] w fun e w' => e = .returned (.bool true) ∧ Below w.heap.size w w' := by
  have HG := hid_of hG
  have h2 := hG.sz
  have hmx : Tryd.prog.follows Departure.mixedOrders = true := by kernel_rfl
  have Hmx := hid_of hmx
  have ca := hid_of (write_any A hA w hG)
  have hV : Wd.wr A < 65536 := by have := wr_lt hA; omega
  have cr := hid_of (fun W (h : Gl W) => read_any (Wd.wr A) hV W h)
  rw [(back_at hA).1, (back_at hA).2] at cr
  obtain ⟨x1, l1⟩ := xor_pow (Wd.wr A) I hV (by omega)
  obtain ⟨x2, l2⟩ := xor_pow (Wd.wr A ^^^ 2 ^ I) K l1 (by omega)
  have c1 := hid_of (fun W (h : Gl W) => read_any (Wd.wr A ^^^ 2 ^ I) l1 W h)
  rw [(one_at hA hI).1, (one_at hA hI).2] at c1
  have c2 := hid_of (fun W (h : Gl W) => read_any (Wd.wr A ^^^ 2 ^ I ^^^ 2 ^ K) l2 W h)
  rw [(two_at hA hI hK hn).1, (two_at hA hI hK hn).2] at c2
  generalize Wd.wr A ^^^ 2 ^ I ^^^ 2 ^ K = X2 at *
  generalize Wd.wr A ^^^ 2 ^ I = X1 at *
  generalize Wd.wr A = V at *
  have d1 : decide ((I : Int) < 0) = false := decide_eq_false (by omega)
  have d2 : decide ((I : Int) > 12) = false := decide_eq_false (by omega)
  have d3 : decide ((K : Int) < 0) = false := decide_eq_false (by omega)
  have d4 : decide ((K : Int) > 12) = false := decide_eq_false (by omega)
  have d5 : ((I : Int) == (K : Int)) = false := by rw [beq_eq_false_iff_ne]; omega
  clear hG hmx hn
  go_enter Tryd.func3, Tryd.ntmps3
  go_wp2_with fail
  refine ca.out.mono ?_
  rintro e w1 ⟨rfl, hb1⟩
  have B1 := hid_of hb1
  clear hb1
  go_wp2_with fail
  refine (cr.out _ (HG.out.below h2 B1.out)).mono ?_
  rintro e w2 ⟨rfl, hb2⟩
  have B2 := hid_of (B1.out.trans (hb2.mono B1.out.size))
  clear hb2
  go_wp2_with fail
  refine (begun_any _ (HG.out.below h2 B2.out)).mono ?_
  rintro e w3 ⟨rfl, hb3⟩
  have B3 := hid_of (B2.out.trans (hb3.mono B2.out.size))
  clear hb3
  go_wp2_with fail
  refine (c1.out _ (HG.out.below h2 B3.out)).mono ?_
  rintro e w4 ⟨rfl, hb4⟩
  have B4 := hid_of (B3.out.trans (hb4.mono B3.out.size))
  clear hb4
  go_wp2_with fail
  refine wp_region_quiet (C := fun w' => Below w.heap.size w w') Hmx.out (by kernel_rfl) (B4.out.drew) ?_
  repeat
    refine wpQuiet_step (fun K hK => ?_)
    go_simp
    first
      | (refine ⟨_, fun w' hw' => rfl, hK _ ?_⟩; clear hK K)
      | (refine hK _ ?_; clear hK K)
      | (refine ⟨.tuple #[.int .u8 0, .int .i64 (-1)], fun w' hw' => ?_, hK _ ?_⟩
         · refine (c2.out w' (HG.out.below h2 hw')).mono ?_
           rintro e w5 ⟨rfl, hB5⟩
           exact ⟨rfl, hw'.trans (hB5.mono hw'.size)⟩
         clear hK K)
  refine wpQuiet_nil ?_
  intro w5 hw5
  have B5 := hid_of hw5
  clear hw5
  go_wp2_with fail
  go_ret
  exact ⟨ret_true (by simp), B5.out⟩
theorem walk (a0 a1 a2 : Int) (w0 : (Lit.int .u8 a0).wf = true) (w1 : (Lit.int .i64 a1).wf = true) (w2 : (Lit.int .i64 a2).wf = true) (w : World) (hG : Gl w) :
    Calls Tryd.prog 3 #[.int .u8 a0, .int .i64 a1, .int .i64 a2] w fun e w' => e = .returned (.bool true) ∧ Below w.heap.size w w' := by
  obtain ⟨p0, q0⟩ := bounds_u8 w0
  obtain ⟨A, rfl⟩ := Int.eq_ofNat_of_zero_le p0
  by_cases h : a1 < 0 ∨ (0 ≤ a1 ∧ 12 < a1) ∨ (0 ≤ a1 ∧ a1 ≤ 12 ∧ a2 < 0) ∨ (0 ≤ a1 ∧ a1 ≤ 12 ∧ 0 ≤ a2 ∧ 12 < a2) ∨ (0 ≤ a1 ∧ a1 ≤ 12 ∧ a1 = a2)
  · exact out_any A (by omega) a1 a2 w hG h
  · obtain ⟨I, rfl⟩ := Int.eq_ofNat_of_zero_le (show 0 ≤ a1 by omega)
    obtain ⟨K, rfl⟩ := Int.eq_ofNat_of_zero_le (show 0 ≤ a2 by omega)
    exact in_any A (by omega) I K (by omega) (by omega) (by omega) w hG

set_option maxRecDepth 100000 in
theorem lifted (os : Os) (started : os.Started) (H : Type) (enc : TypeId × Value → H) :
    ReturnsInHanded {} Tryd.checked os 3 .any (fun w args => (Rows.wordMendsSpec.pre enc Tryd.prog Tryd.f3 [] false w args ∧ laidMetH Tryd.prog laid2 w) ∧ sizedMet enc Tryd.prog Tryd.f3 (OpenSpec.ofChange Rows.wordMendsSpec) false w args)
      (Rows.wordMendsSpec.post enc Tryd.prog Tryd.f3 false true false false) := by
  refine returnsInHanded_of_change_and (C := Tryd.checked) (X := fun w _ => laidMetH Tryd.prog laid2 w) (fun _ _ _ hh h => h.of_heap hh) own started (by kernel_rfl) Tryd.func3
    (ChangeSpec.witness_shaped (enc := enc) (C := Tryd.checked) (os := os) (X := fun w _ => laidMetH Tryd.prog laid2 w) false (World.doorLaid Tryd.prog 400 os) #[.int .u8 0, .int .i64 0, .int .i64 0] 8 rfl (World.shaped_of_RefB (by kernel_rfl) (by kernel_rfl)) (by kernel_rfl) (by kernel_rfl) (by kernel_rfl) (door_met os _)) ?_
  intro W base args ds gs before hval0 hW _ _ hL _
  have hval : ∀ (j : Nat) t v, Tryd.f3.params[j]? = some t → args[j]? = some v → Value.okWide Tryd.prog W .any base t v := hval0
  have hW' := hW
  obtain ⟨p, q, hA0, hV, rfl, hfz, hnd⟩ := hW
  have hA : DataW.TrodAll enc Tryd.prog W 0 (fun _ => true) true Tryd.f3.params.toList args.toList ds p := hA0
  rw [Tryd.params3] at hA hval
  obtain ⟨v0, vs0, d0, ds0, p0, q0, hargs, rfl, rfl, h0, r0⟩ := trodAll_cons hA
  obtain ⟨v1, vs1, d1, ds1, p1, q1, rfl, rfl, rfl, h1, r1⟩ := trodAll_cons r0
  obtain ⟨v2, vs2, d2, ds2, p2, q2, rfl, rfl, rfl, h2, r2⟩ := trodAll_cons r1
  obtain ⟨rfl, rfl, rfl⟩ := trodAll_nil r2
  obtain rfl : args = #[v0, v1, v2] := by cases args; simp_all
  obtain ⟨rfl, rfl⟩ := trodVars_none hV
  obtain ⟨a0, rfl, rfl, rfl, w0⟩ := open_int Tryd.underlying5 (hval 0 5 v0 rfl rfl) h0
  obtain ⟨a1, rfl, rfl, rfl, w1⟩ := open_int Tryd.underlying3 (hval 1 3 v1 rfl rfl) h1
  obtain ⟨a2, rfl, rfl, rfl, w2⟩ := open_int Tryd.underlying3 (hval 2 3 v2 rfl rfl) h2
  clear hA0 hval0
  simp only [List.append_nil] at hW'
  refine (walk a0 a1 a2 w0 w1 w2 W (of_laid hL)).mono fun e W' ⟨he, hg⟩ => ?_
  subst he
  exact ⟨_, rfl, _, _, _, [], [], [], hW', trodAll_mk1 (shut_bool Tryd.underlying4 _), (trodAll_cons_mk (shut_int Tryd.underlying5 w0) (trodAll_cons_mk (shut_int Tryd.underlying3 w1) (trodAll_cons_mk (shut_int Tryd.underlying3 w2) trodAll_mk0))), rfl, hg.frame _, fun h => by cases h⟩
theorem over : Rows.WordMendsSaid :=
  OpenClaim.holds_of_wide 3 Tryd.f3 rfl rfl rfl rfl rfl rfl rfl ⟨rfl, rfl, rfl, rfl, rfl⟩ rfl rfl rfl rfl rfl (by kernel_rfl) Tryd.func3 (by kernel_rfl)
    (of_decide_eq_true (by kernel_rfl)) (by unfold Func.isWrapper; first | (rw [if_pos (by decide +kernel)]; kernel_rfl) | (rw [if_neg (by decide +kernel)]; exact ⟨rfl, rfl⟩))
    (fun os started H enc _ => lifted os started H enc)
/-- THE TIED CARD -/
theorem proved : Rows.WordMendsCardSaid :=
  Claim7.holds_tied_plain_at .later [] [.data, .data] true (true, "87ebca35141552c93e93adfae79a6d263e31723d07d2413a3a2d239b54e77150") false
    over (fun _ h => by cases h) (by kernel_rfl) (fun _ h => by cases h) wordMends_row_tie rfl ⟨rfl, rfl⟩ (by kernel_rfl) rfl
    (fun f fn hf hfn => by
      obtain rfl : f = 3 := Option.some.inj ((show Tryd.prog.funcNamed "supercargo/supercargolaw.WordMends" = some 3 by kernel_rfl).symm.trans hf) |>.symm
      obtain rfl : fn = Tryd.f3 := (Option.some.inj (Tryd.func3.symm.trans hfn)).symm
      exact ⟨by kernel_rfl, fun j t ht => by
        rw [Tryd.params3] at ht
        have hm : t ∈ [5, 3, 3] := by simpa using Array.mem_of_getElem? ht
        have hall : ([5, 3, 3].all fun u => !Tryd.prog.wantsStandIn u) = true := by kernel_rfl
        exact (show Tryd.prog.wantsStandIn t = false by simpa using List.all_eq_true.1 hall t hm)⟩)
    (by kernel_rfl)
#print axioms proved
end Go.Proofs.YtiiickinlklelabDoor.wordMends
