/- B1 (PolyValue): the value of a product is the product of the values, that of a sum their sum, and noughts at the end are no matter: the walk of the law over mulp_any, begun_any, value_any, plusOf_any, trim_any. -/
import Derived.Test.YtlccdceeppfleaaRows
import Derived.Test.YtlccdceeppfleaaPlusA
import Derived.WalkKit
import Derived.ProofKit
import Derived.OpenShut
import Derived.ShutString
import Derived.ChangeOld
import Derived.Below
import Derived.SizedLaws
namespace Go.Proofs.Ytlccdceeppfleaa.polyValue
open Go.ChangeShapes Go.WideShapes Go.ChangeAt Go.RowKit
open Go.ChangeMaps (open_string shut_string)
set_option linter.unusedVariables false

theorem own : ownKnob Try.prog.godebug = none := by kernel_rfl
theorem laidOut : laidOutB Try.prog = true := by kernel_rfl

set_option maxRecDepth 100000 in
set_option maxHeartbeats 4000000 in
theorem walk_long (v0 : Value) (L0 : List Nat) (v1 : Value) (L1 : List Nat) (X : Nat) (hX : X < 256) (w : World) (w0 : Bs w.heap.size w v0 L0) (w1 : Bs w.heap.size w v1 L1)
    (hm : Calls Try.prog 9 #[v0, v1] w fun e w' => e = .returned (.tuple #[.slice none 0 0, .int .i64 2]) ∧ Below w.heap.size w w') :
    Calls Try.prog 4 #[v0, v1, .int .u8 X] w fun e w' => e = .returned (.bool true) ∧ Below w.heap.size w w' := by
  have Hm := hid_of hm
  have H0 := hid_of w0
  have H1 := hid_of w1
  have hs := pval_plus w0.1 w1.1 hX
  have ha2 := pval_lt w0.1 X
  have hb2 := pval_lt w1.1 X
  have hpm := pval_pm w0.1 w1.1 hX
  clear hm
  obtain ⟨p1, p2, ao, cap, rfl, _, _, p6⟩ := w0
  obtain ⟨q1, q2, bo, cbp, rfl, _, _, q6⟩ := w1
  obtain ⟨a, ha⟩ : ∃ a, pval L0 X = a := ⟨_, rfl⟩
  obtain ⟨b, hb⟩ : ∃ b, pval L1 X = b := ⟨_, rfl⟩
  rw [ha, hb] at hs hpm
  rw [ha] at ha2
  rw [hb] at hb2
  have hx7 := u8_xor_nat a b ha2 hb2
  have HA := hid_of ha
  have HBB := hid_of hb
  have HS := hid_of hs
  have HPM := hid_of hpm
  clear p1 q1 p6 q6 ha hb hs hpm
  go_enter Try.func4, Try.ntmps4
  go_wp2_with fail
  refine Hm.out.mono ?_
  rintro e w1 ⟨rfl, hB1⟩
  go_wp2_with fail
  refine (begun_any _).mono ?_
  rintro e w2 ⟨rfl, hB2⟩
  have B2 := hid_of (hB1.trans (hB2.mono hB1.size))
  go_wp2_with fail
  refine (plusOf_any _ _ L0 L1 _ ((H0.out.below B2.out).mono B2.out.size) ((H1.out.below B2.out).mono B2.out.size)).mono ?_
  rintro e w3 ⟨v3, rfl, hO3, hB3⟩
  have B3 := hid_of (B2.out.trans (hB3.mono B2.out.size))
  have s3 := hid_of hO3.bs
  clear hO3
  go_wp2_with fail
  refine (value_any _ _ (by omega) (by omega) _ _ s3.out).mono ?_
  rintro e w4 ⟨rfl, hB4⟩
  rw [Int.toNat_natCast, HS.out]
  have B4 := hid_of (B3.out.trans (hB4.mono B3.out.size))
  go_wp2_with fail
  refine (value_any _ _ (by omega) (by omega) L0 _ ((H0.out.below B4.out).mono B4.out.size)).mono ?_
  rintro e w5 ⟨rfl, hB5⟩
  rw [Int.toNat_natCast, HA.out]
  have B5 := hid_of (B4.out.trans (hB5.mono B4.out.size))
  go_wp2_with fail
  refine (value_any _ _ (by omega) (by omega) L1 _ ((H1.out.below B5.out).mono B5.out.size)).mono ?_
  rintro e w6 ⟨rfl, hB6⟩
  rw [Int.toNat_natCast, HBB.out]
  have B6 := hid_of (B5.out.trans (hB6.mono B5.out.size))
  go_wp2_with fail
  refine (trim_any _ L0 _ ((H0.out.below B6.out).mono B6.out.size)).mono ?_
  rintro e w7 ⟨v7, rfl, hO7, hB7⟩
  have B7 := hid_of (B6.out.trans (hB7.mono B6.out.size))
  have s7 := hid_of hO7.bs
  clear hO7
  go_wp2_with fail
  refine (value_any _ _ (by omega) (by omega) _ _ s7.out).mono ?_
  rintro e w8 ⟨rfl, hB8⟩
  rw [Int.toNat_natCast, pval_trim, HA.out]
  have B8 := hid_of (B7.out.trans (hB8.mono B7.out.size))
  go_wp2_with fail
  refine (value_any _ _ (by omega) (by omega) L0 _ ((H0.out.below B8.out).mono B8.out.size)).mono ?_
  rintro e w9 ⟨rfl, hB9⟩
  rw [Int.toNat_natCast, HA.out]
  have B9 := hid_of (B8.out.trans (hB9.mono B8.out.size))
  go_wp2_with fail
  go_ret
  exact ⟨rfl, B9.out⟩
set_option maxRecDepth 100000 in
set_option maxHeartbeats 4000000 in
theorem walk_ok (v0 : Value) (L0 : List Nat) (v1 : Value) (L1 : List Nat) (X : Nat) (hX : X < 256) (w : World) (w0 : Bs w.heap.size w v0 L0) (w1 : Bs w.heap.size w v1 L1)
    (hm : Calls Try.prog 9 #[v0, v1] w fun e w' => ∃ v, e = .returned (.tuple #[v, .int .i64 0]) ∧ Ow w.heap.size w' v (pm L0 L1) ∧ Below w.heap.size w w') :
    Calls Try.prog 4 #[v0, v1, .int .u8 X] w fun e w' => e = .returned (.bool true) ∧ Below w.heap.size w w' := by
  have Hm := hid_of hm
  have H0 := hid_of w0
  have H1 := hid_of w1
  have hs := pval_plus w0.1 w1.1 hX
  have ha2 := pval_lt w0.1 X
  have hb2 := pval_lt w1.1 X
  have hpm := pval_pm w0.1 w1.1 hX
  clear hm
  obtain ⟨p1, p2, ao, cap, rfl, _, _, p6⟩ := w0
  obtain ⟨q1, q2, bo, cbp, rfl, _, _, q6⟩ := w1
  obtain ⟨a, ha⟩ : ∃ a, pval L0 X = a := ⟨_, rfl⟩
  obtain ⟨b, hb⟩ : ∃ b, pval L1 X = b := ⟨_, rfl⟩
  rw [ha, hb] at hs hpm
  rw [ha] at ha2
  rw [hb] at hb2
  have hx7 := u8_xor_nat a b ha2 hb2
  have HA := hid_of ha
  have HBB := hid_of hb
  have HS := hid_of hs
  have HPM := hid_of hpm
  clear p1 q1 p6 q6 ha hb hs hpm
  go_enter Try.func4, Try.ntmps4
  go_wp2_with fail
  refine Hm.out.mono ?_
  rintro e w1 ⟨v, rfl, hO, hB1⟩
  have sO := hid_of hO.bs
  clear hO
  go_wp2_with fail
  refine (begun_any _).mono ?_
  rintro e w2 ⟨rfl, hB2⟩
  have B2 := hid_of (hB1.trans (hB2.mono hB1.size))
  go_wp2_with fail
  refine (value_any _ _ (by omega) (by omega) _ _ ((sO.out.below hB2).mono hB2.size)).mono ?_
  rintro e w3 ⟨rfl, hB3⟩
  rw [Int.toNat_natCast, HPM.out]
  have B2 := hid_of (B2.out.trans (hB3.mono B2.out.size))
  go_wp2_with fail
  refine (value_any _ _ (by omega) (by omega) L0 _ ((H0.out.below B2.out).mono B2.out.size)).mono ?_
  rintro e w4 ⟨rfl, hB4⟩
  rw [Int.toNat_natCast, HA.out]
  have B2 := hid_of (B2.out.trans (hB4.mono B2.out.size))
  go_wp2_with fail
  refine (value_any _ _ (by omega) (by omega) L1 _ ((H1.out.below B2.out).mono B2.out.size)).mono ?_
  rintro e w5 ⟨rfl, hB5⟩
  rw [Int.toNat_natCast, HBB.out]
  have B2 := hid_of (B2.out.trans (hB5.mono B2.out.size))
  go_wp2_with fail
  refine (mul_any _ _ _ (by omega) (by omega) (by omega) (by omega)).mono ?_
  rintro e w6 ⟨rfl, rfl⟩
  rw [Int.toNat_natCast, Int.toNat_natCast]
  go_wp2_with fail
  refine (plusOf_any _ _ L0 L1 _ ((H0.out.below B2.out).mono B2.out.size) ((H1.out.below B2.out).mono B2.out.size)).mono ?_
  rintro e w3 ⟨v3, rfl, hO3, hB3⟩
  have B3 := hid_of (B2.out.trans (hB3.mono B2.out.size))
  have s3 := hid_of hO3.bs
  clear hO3
  go_wp2_with fail
  refine (value_any _ _ (by omega) (by omega) _ _ s3.out).mono ?_
  rintro e w4 ⟨rfl, hB4⟩
  rw [Int.toNat_natCast, HS.out]
  have B4 := hid_of (B3.out.trans (hB4.mono B3.out.size))
  go_wp2_with fail
  refine (value_any _ _ (by omega) (by omega) L0 _ ((H0.out.below B4.out).mono B4.out.size)).mono ?_
  rintro e w5 ⟨rfl, hB5⟩
  rw [Int.toNat_natCast, HA.out]
  have B5 := hid_of (B4.out.trans (hB5.mono B4.out.size))
  go_wp2_with fail
  refine (value_any _ _ (by omega) (by omega) L1 _ ((H1.out.below B5.out).mono B5.out.size)).mono ?_
  rintro e w6 ⟨rfl, hB6⟩
  rw [Int.toNat_natCast, HBB.out]
  have B6 := hid_of (B5.out.trans (hB6.mono B5.out.size))
  go_wp2_with fail
  refine (trim_any _ L0 _ ((H0.out.below B6.out).mono B6.out.size)).mono ?_
  rintro e w7 ⟨v7, rfl, hO7, hB7⟩
  have B7 := hid_of (B6.out.trans (hB7.mono B6.out.size))
  have s7 := hid_of hO7.bs
  clear hO7
  go_wp2_with fail
  refine (value_any _ _ (by omega) (by omega) _ _ s7.out).mono ?_
  rintro e w8 ⟨rfl, hB8⟩
  rw [Int.toNat_natCast, pval_trim, HA.out]
  have B8 := hid_of (B7.out.trans (hB8.mono B7.out.size))
  go_wp2_with fail
  refine (value_any _ _ (by omega) (by omega) L0 _ ((H0.out.below B8.out).mono B8.out.size)).mono ?_
  rintro e w9 ⟨rfl, hB9⟩
  rw [Int.toNat_natCast, HA.out]
  have B9 := hid_of (B8.out.trans (hB9.mono B8.out.size))
  go_wp2_with fail
  go_ret
  exact ⟨rfl, B9.out⟩
theorem walk (v0 : Value) (L0 : List Nat) (v1 : Value) (L1 : List Nat) (a2 : Int) (w : World) (w0 : Bs w.heap.size w v0 L0) (w1 : Bs w.heap.size w v1 L1) (w2 : (Lit.int .u8 a2).wf = true) :
    Calls Try.prog 4 #[v0, v1, .int .u8 a2] w fun e w' => e = .returned (.bool true) ∧ Below w.heap.size w w' := by
  have h2 := bounds_u8 w2
  obtain ⟨X, rfl⟩ := Int.eq_ofNat_of_zero_le h2.1
  by_cases h : 64 < L0.length ∨ 64 < L1.length
  · exact walk_long v0 L0 v1 L1 X (by omega) w w0 w1 (mul_long v0 v1 L0 L1 w w0 w1 h)
  · exact walk_ok v0 L0 v1 L1 X (by omega) w w0 w1 (mulp_any v0 v1 L0 L1 w w0 w1 (by omega) (by omega))

/-! ### THE ROW's STEP: WRITTEN OUT: LEAVE IT -/
set_option maxRecDepth 100000 in
theorem lifted (os : Os) (started : os.Started) (H : Type) (enc : TypeId × Value → H) :
    ReturnsInHanded {} Try.checked os 4 .any (Rows.polyValueSpec.pre6 enc Try.prog Try.f4 Rows.polyValueRow.domain false) (Rows.polyValueSpec.post enc Try.prog Try.f4 false true false false) := by
  refine returnsInHanded_of_change_sized (C := Try.checked) own started (by kernel_rfl) Try.func4
    (ChangeSpec.witness6 (enc := enc) (C := Try.checked) false ⟨#[], #[.slice none 0 0, .slice none 0 0, .int .u8 0], []⟩ 8 (by kernel_rfl) (by kernel_rfl) (by kernel_rfl) (by kernel_rfl)) ?_
  intro W base args ds gs before hval0 hW hcnd hsz0 _
  have hsz : (DataW.weightsEach Try.prog (Try.f4.params.toList ++ Rows.polyValueSpec.plain.varTypes Try.prog) (ds ++ gs)).all (· ≤ reachBytes) = true := hsz0
  clear hsz0
  have hval : ∀ (j : Nat) t v, Try.f4.params[j]? = some t → args[j]? = some v → Value.okWide Try.prog W .any base t v := hval0
  have hW' := hW
  obtain ⟨p, q, hA0, hV, rfl, hfz, hnd⟩ := hW
  have hA : DataW.TrodAll enc Try.prog W 0 (fun _ => true) true Try.f4.params.toList args.toList ds p := hA0
  rw [Try.params4] at hA hval hsz
  obtain ⟨v0, vs0, d0, ds0, p0, q0, hargs, rfl, rfl, h0, r0⟩ := trodAll_cons hA
  obtain ⟨v1, vs1, d1, ds1, p1, q1, rfl, rfl, rfl, h1, r1⟩ := trodAll_cons r0
  obtain ⟨v2, vs2, d2, ds2, p2, q2, rfl, rfl, rfl, h2, r2⟩ := trodAll_cons r1
  obtain ⟨rfl, rfl, rfl⟩ := trodAll_nil r2
  obtain rfl : args = #[v0, v1, v2] := by cases args; simp_all
  obtain ⟨rfl, rfl⟩ := trodVars_none hV
  obtain ⟨a0, len0, cap0, rfl⟩ := okWide_slice Try.underlying22 (hval 0 22 v0 rfl rfl)
  have k0 := h0
  have lt0 : ∀ x ∈ p0, x.block < W.heap.size := by obtain ⟨m, hm⟩ := k0; exact DataW.trod_lt m _ _ _ hm
  obtain ⟨L0, w0⟩ : ∃ L, Bs W.heap.size W (.slice a0 len0 cap0) L := by
    obtain ⟨fuel, hf⟩ := h0
    rcases open_ints Try.underlying22 Try.underlying5 (by kernel_rfl) hf with ⟨hcs, _⟩ | ⟨x, l, c, zs, hcs, _, hl, hm, hz, hx, hcell, hwz⟩
    · simp [Value.cells] at hcs
      obtain ⟨rfl, rfl, rfl⟩ := hcs
      exact ⟨[], Bs.nil _ _⟩
    · simp [Value.cells] at hcs
      obtain ⟨rfl, rfl, rfl⟩ := hcs
      have e0 := (Prod.mk.inj hx).1
      have hb := sized_slice hsz (j := 0) (t := 22) (e := 5) rfl (congrArg some e0) Try.underlying22
      rw [show Try.prog.bytesOf 5 = 1 by kernel_rfl] at hb
      simp only [lits, List.length_map, List.length_take, List.length_drop, reachBytes] at hb
      simp only [if_true] at hz
      obtain ⟨L, hL, _⟩ := isRow_bs (.inr ⟨_, rfl, hl, hm, hz, hcell, hwz⟩) (by omega)
      exact ⟨L, hL⟩
  obtain ⟨a1, len1, cap1, rfl⟩ := okWide_slice Try.underlying22 (hval 1 22 v1 rfl rfl)
  have k1 := h1
  have lt1 : ∀ x ∈ p1, x.block < W.heap.size := by obtain ⟨m, hm⟩ := k1; exact DataW.trod_lt m _ _ _ hm
  obtain ⟨L1, w1⟩ : ∃ L, Bs W.heap.size W (.slice a1 len1 cap1) L := by
    obtain ⟨fuel, hf⟩ := h1
    rcases open_ints Try.underlying22 Try.underlying5 (by kernel_rfl) hf with ⟨hcs, _⟩ | ⟨x, l, c, zs, hcs, _, hl, hm, hz, hx, hcell, hwz⟩
    · simp [Value.cells] at hcs
      obtain ⟨rfl, rfl, rfl⟩ := hcs
      exact ⟨[], Bs.nil _ _⟩
    · simp [Value.cells] at hcs
      obtain ⟨rfl, rfl, rfl⟩ := hcs
      have e0 := (Prod.mk.inj hx).1
      have hb := sized_slice hsz (j := 1) (t := 22) (e := 5) rfl (congrArg some e0) Try.underlying22
      rw [show Try.prog.bytesOf 5 = 1 by kernel_rfl] at hb
      simp only [lits, List.length_map, List.length_take, List.length_drop, reachBytes] at hb
      simp only [if_true] at hz
      obtain ⟨L, hL, _⟩ := isRow_bs (.inr ⟨_, rfl, hl, hm, hz, hcell, hwz⟩) (by omega)
      exact ⟨L, hL⟩
  obtain ⟨a2, rfl, rfl, rfl, w2⟩ := open_int Try.underlying5 (hval 2 5 v2 rfl rfl) h2
  clear hA0 hval0
  refine (walk _ L0 _ L1 a2 W w0 w1 w2).mono fun e W' ⟨he, bel⟩ => ?_
  subst he
  exact ⟨_, rfl, _, _, _, [], _, [], hW', trodAll_mk1 (shut_bool Try.underlying4 _), (trodAll_cons_mk (Below.trod laidOut (by kernel_rfl) (of_decide_eq_true (by kernel_rfl)) k0 bel lt0) (trodAll_cons_mk (Below.trod laidOut (by kernel_rfl) (of_decide_eq_true (by kernel_rfl)) k1 bel lt1) (trodAll_cons_mk (shut_int Try.underlying5 w2) trodAll_mk0))), rfl, bel.frame _, fun h => by cases h⟩

theorem over : Rows.polyValueRow.holds Try.pinned (OpenSpec.ofChange Rows.polyValueSpec) :=
  OpenClaim.holds_of_wide 4 Try.f4 rfl rfl rfl rfl rfl rfl rfl ⟨rfl, rfl, rfl, rfl, rfl⟩ rfl rfl rfl rfl rfl (by kernel_rfl) Try.func4 (by kernel_rfl)
    (of_decide_eq_true (by kernel_rfl)) (by unfold Func.isWrapper; first | (rw [if_pos (by decide +kernel)]; kernel_rfl) | (rw [if_neg (by decide +kernel)]; exact ⟨rfl, rfl⟩))
    (fun os started H enc _ => lifted os started H enc)

/-- ████ THE STATEMENT ████ -/
theorem proved : Rows.PolyValueSaid := over
#print axioms proved
end Go.Proofs.Ytlccdceeppfleaa.polyValue
