/- Proved: for every byte and every two numbers the statement FieldPower of the program answers true, with no condition: powers of sums are products of powers, each byte but 0 is one, and they come again after 255. -/
import Derived.Test.YtaomohcidooabaaRows
import Derived.Test.YtaomohcidooabaaDivide
import Derived.WalkKit
import Derived.ProofKit
import Derived.OpenShut
import Derived.Below
namespace Go.Proofs.Ytaomohcidooabaa.fieldPower
open Go.ChangeShapes Go.WideShapes Go.ChangeAt Go.RowKit
set_option linter.unusedVariables false      -- a walk need not use every 'w<i>' (that an integer argument fits its kind)

theorem own : ownKnob Try.prog.godebug = none := by kernel_rfl

theorem ret_true {b : Bool} (h : b = true) : Ending.returned (.bool b) = .returned (.bool true) := by rw [h]
theorem pw_sum (n m : Int) : Gf.pw ((n + m) % 255).toNat = Gf.gm (Gf.pw (n % 255).toNat) (Gf.pw (m % 255).toNat) := by
  rw [← Gf.pw_add, ← Gf.pw_mod ((n % 255).toNat + (m % 255).toNat)]
  congr 1
  omega
theorem pw_round (n : Int) : Gf.pw ((n + 255) % 255).toNat = Gf.pw (n % 255).toNat := by
  congr 1
  omega
set_option maxHeartbeats 1000000 in
theorem walk (a0 : Int) (a1 : Int) (a2 : Int) (w0 : (Lit.int .u8 a0).wf = true) (w1 : (Lit.int .i64 a1).wf = true) (w2 : (Lit.int .i64 a2).wf = true) (w : World) :
    Calls Try.prog 6 #[.int .u8 a0, .int .i64 a1, .int .i64 a2] w fun e w' => e = .returned (.bool true) ∧ Below w.heap.size w w' := by
  obtain ⟨p0, q0⟩ := bounds_u8 w0
  clear w0 w1 w2
  obtain ⟨A, rfl⟩ := Int.eq_ofNat_of_zero_le p0
  by_cases hr : a1 < -1000000 ∨ 1000000 < a1 ∨ a2 < -1000000 ∨ 1000000 < a2
  · have hz : ∃ z : Int, z = (if (A : Int) = 0 then 5 else 0) := ⟨_, rfl⟩
    obtain ⟨z, hz⟩ := hz
    have Hz : Hid (z = (if (A : Int) = 0 then 5 else 0)) := hz
    clear hz
    by_cases r1 : a1 < -1000000
    · clear hr
      go_enter Try.func6, Try.ntmps6
      go_wp2_with fail
      refine (log_any _ _ (by omega) (by omega)).mono ?_
      rintro e w1 ⟨rfl, hb1⟩
      rw [Int.toNat_natCast, ← Hz.out]
      go_wp2_with fail
      refine (begun_any _).mono ?_
      rintro e w2 ⟨rfl, hb2⟩
      go_wp2_with fail
      go_ret
      exact ⟨rfl, hb1.trans (hb2.mono hb1.size)⟩
    · by_cases r2 : 1000000 < a1
      · clear hr
        go_enter Try.func6, Try.ntmps6
        go_wp2_with fail
        refine (log_any _ _ (by omega) (by omega)).mono ?_
        rintro e w1 ⟨rfl, hb1⟩
        rw [Int.toNat_natCast, ← Hz.out]
        go_wp2_with fail
        refine (begun_any _).mono ?_
        rintro e w2 ⟨rfl, hb2⟩
        go_wp2_with fail
        go_ret
        exact ⟨rfl, hb1.trans (hb2.mono hb1.size)⟩
      · by_cases r3 : a2 < -1000000
        · clear hr
          go_enter Try.func6, Try.ntmps6
          go_wp2_with fail
          refine (log_any _ _ (by omega) (by omega)).mono ?_
          rintro e w1 ⟨rfl, hb1⟩
          rw [Int.toNat_natCast, ← Hz.out]
          go_wp2_with fail
          refine (begun_any _).mono ?_
          rintro e w2 ⟨rfl, hb2⟩
          go_wp2_with fail
          go_ret
          exact ⟨rfl, hb1.trans (hb2.mono hb1.size)⟩
        · have r4 : 1000000 < a2 := by omega
          clear hr
          go_enter Try.func6, Try.ntmps6
          go_wp2_with fail
          refine (log_any _ _ (by omega) (by omega)).mono ?_
          rintro e w1 ⟨rfl, hb1⟩
          rw [Int.toNat_natCast, ← Hz.out]
          go_wp2_with fail
          refine (begun_any _).mono ?_
          rintro e w2 ⟨rfl, hb2⟩
          go_wp2_with fail
          go_ret
          exact ⟨rfl, hb1.trans (hb2.mono hb1.size)⟩
  · have r1 : -1000000 ≤ a1 := by omega
    have r2 : a1 ≤ 1000000 := by omega
    have r3 : -1000000 ≤ a2 := by omega
    have r4 : a2 ≤ 1000000 := by omega
    clear hr
    have H : Hid (Gf.pw ((a1 + a2) % 255).toNat = Gf.gm (Gf.pw (a1 % 255).toNat) (Gf.pw (a2 % 255).toNat) ∧ Gf.pw ((a1 + 255) % 255).toNat = Gf.pw (a1 % 255).toNat) := ⟨pw_sum a1 a2, pw_round a1⟩
    have l1 := Gf.pw_lt (a1 % 255).toNat
    have l2 := Gf.pw_lt (a2 % 255).toNat
    by_cases h0 : A = 0
    · have e0 : ((A : Int) == 0) = true := by rw [beq_iff_eq]; omega
      have Z : Hid (Gf.lg A = 0) := by show Gf.lg A = 0; rw [h0]; exact Gf.lg_zero
      have Hz : Hid ((if (A : Int) = 0 then (5 : Int) else 0) = 5) := if_pos (by omega)
      clear h0
      go_enter Try.func6, Try.ntmps6
      go_wp2_with fail
      refine (log_any _ _ (by omega) (by omega)).mono ?_
      rintro e w1 ⟨rfl, hb1⟩
      rw [Int.toNat_natCast, Z.out, Hz.out]
      go_wp2_with fail
      refine (begun_any _).mono ?_
      rintro e w2 ⟨rfl, hb2⟩
      go_wp2_with fail
      refine (power_any _ _).mono ?_
      rintro e w3 ⟨rfl, hb3⟩
      rw [H.out.1]
      go_wp2_with fail
      refine (power_any _ _).mono ?_
      rintro e w4 ⟨rfl, hb4⟩
      go_wp2_with fail
      refine (power_any _ _).mono ?_
      rintro e w5 ⟨rfl, hb5⟩
      go_wp2_with fail
      refine (mul_any _ _ _ (by omega) (by omega) (by omega) (by omega)).mono ?_
      rintro e w6 ⟨rfl, rfl⟩
      rw [Int.toNat_natCast, Int.toNat_natCast]
      go_wp2_with fail
      refine (power_any _ _).mono ?_
      rintro e w7 ⟨rfl, hb7⟩
      rw [H.out.2]
      go_wp2_with fail
      refine (power_any _ _).mono ?_
      rintro e w8 ⟨rfl, hb8⟩
      go_wp2_with fail
      go_ret
      have h2 := hb1.trans (hb2.mono hb1.size)
      have h3 := h2.trans (hb3.mono h2.size)
      have h4 := h3.trans (hb4.mono h3.size)
      have h5 := h4.trans (hb5.mono h4.size)
      have h7 := h5.trans (hb7.mono h5.size)
      have h8 := h7.trans (hb8.mono h7.size)
      exact ⟨rfl, h8⟩
    · have e0 : ((A : Int) == 0) = false := by rw [beq_eq_false_iff_ne]; omega
      have hl := Gf.lg_lt (a := A) (by omega) h0
      have Z : Hid (Gf.pw ((Gf.lg A : Int) % 255).toNat = A) := by
        show Gf.pw ((Gf.lg A : Int) % 255).toNat = A
        rw [show ((Gf.lg A : Int) % 255).toNat = Gf.lg A by omega]
        exact Gf.pw_lg (by omega) h0
      have Hz : Hid ((if (A : Int) = 0 then (5 : Int) else 0) = 0) := if_neg (by omega)
      clear h0
      go_enter Try.func6, Try.ntmps6
      go_wp2_with fail
      refine (log_any _ _ (by omega) (by omega)).mono ?_
      rintro e w1 ⟨rfl, hb1⟩
      rw [Int.toNat_natCast, Hz.out]
      go_wp2_with fail
      refine (begun_any _).mono ?_
      rintro e w2 ⟨rfl, hb2⟩
      go_wp2_with fail
      refine (power_any _ _).mono ?_
      rintro e w3 ⟨rfl, hb3⟩
      rw [H.out.1]
      go_wp2_with fail
      refine (power_any _ _).mono ?_
      rintro e w4 ⟨rfl, hb4⟩
      go_wp2_with fail
      refine (power_any _ _).mono ?_
      rintro e w5 ⟨rfl, hb5⟩
      go_wp2_with fail
      refine (mul_any _ _ _ (by omega) (by omega) (by omega) (by omega)).mono ?_
      rintro e w6 ⟨rfl, rfl⟩
      rw [Int.toNat_natCast, Int.toNat_natCast]
      go_wp2_with fail
      refine (power_any _ _).mono ?_
      rintro e w7 ⟨rfl, hb7⟩
      rw [H.out.2]
      go_wp2_with fail
      refine (power_any _ _).mono ?_
      rintro e w8 ⟨rfl, hb8⟩
      go_wp2_with fail
      refine (power_any _ _).mono ?_
      rintro e w9 ⟨rfl, hb9⟩
      rw [Z.out]
      go_wp2_with fail
      go_ret
      have h2 := hb1.trans (hb2.mono hb1.size)
      have h3 := h2.trans (hb3.mono h2.size)
      have h4 := h3.trans (hb4.mono h3.size)
      have h5 := h4.trans (hb5.mono h4.size)
      have h7 := h5.trans (hb7.mono h5.size)
      have h8 := h7.trans (hb8.mono h7.size)
      have h9 := h8.trans (hb9.mono h8.size)
      refine ⟨ret_true ?_, h9⟩
      simp
      omega

/-! ### THE ROW's STEP: WRITTEN OUT: LEAVE IT -/
set_option maxRecDepth 100000 in
theorem lifted (os : Os) (started : os.Started) (H : Type) (enc : TypeId × Value → H) :
    ReturnsInHanded {} Try.checked os 6 .any (Rows.fieldPowerSpec.pre6 enc Try.prog Try.f6 Rows.fieldPowerRow.domain false) (Rows.fieldPowerSpec.post enc Try.prog Try.f6 false true false false) := by
  refine returnsInHanded_of_change (C := Try.checked) own started (by kernel_rfl) Try.func6
    (ChangeSpec.witness6 (enc := enc) (C := Try.checked) false ⟨#[], #[.int .u8 0, .int .i64 0, .int .i64 0], []⟩ 8 (by kernel_rfl) (by kernel_rfl) (by kernel_rfl) (by kernel_rfl)) ?_
  intro W base args ds gs before hval0 hW hcnd _
  have hval : ∀ (j : Nat) t v, Try.f6.params[j]? = some t → args[j]? = some v → Value.okWide Try.prog W .any base t v := hval0
  have hW' := hW
  obtain ⟨p, q, hA0, hV, rfl, hfz, hnd⟩ := hW
  have hA : DataW.TrodAll enc Try.prog W 0 (fun _ => true) true Try.f6.params.toList args.toList ds p := hA0
  rw [Try.params6] at hA hval
  obtain ⟨v0, vs0, d0, ds0, p0, q0, hargs, rfl, rfl, h0, r0⟩ := trodAll_cons hA
  obtain ⟨v1, vs1, d1, ds1, p1, q1, rfl, rfl, rfl, h1, r1⟩ := trodAll_cons r0
  obtain ⟨v2, vs2, d2, ds2, p2, q2, rfl, rfl, rfl, h2, r2⟩ := trodAll_cons r1
  obtain ⟨rfl, rfl, rfl⟩ := trodAll_nil r2
  obtain rfl : args = #[v0, v1, v2] := by cases args; simp_all
  obtain ⟨rfl, rfl⟩ := trodVars_none hV
  obtain ⟨a0, rfl, rfl, rfl, w0⟩ := open_int Try.underlying5 (hval 0 5 v0 rfl rfl) h0
  obtain ⟨a1, rfl, rfl, rfl, w1⟩ := open_int Try.underlying3 (hval 1 3 v1 rfl rfl) h1
  obtain ⟨a2, rfl, rfl, rfl, w2⟩ := open_int Try.underlying3 (hval 2 3 v2 rfl rfl) h2
  clear hA0 hval0
  simp only [List.append_nil] at hW'
  refine (walk a0 a1 a2 w0 w1 w2 W).mono fun e W' ⟨he, hg⟩ => ?_
  subst he
  exact ⟨_, rfl, _, _, _, [], [], [], hW', trodAll_mk1 (shut_bool Try.underlying4 _), (trodAll_cons_mk (shut_int Try.underlying5 w0) (trodAll_cons_mk (shut_int Try.underlying3 w1) (trodAll_cons_mk (shut_int Try.underlying3 w2) trodAll_mk0))), rfl, hg.frame _, fun h => by cases h⟩

theorem over : Rows.fieldPowerRow.holds Try.pinned (OpenSpec.ofChange Rows.fieldPowerSpec) :=
  OpenClaim.holds_of_wide 6 Try.f6 rfl rfl rfl rfl rfl rfl rfl ⟨rfl, rfl, rfl, rfl, rfl⟩ rfl rfl rfl rfl rfl (by kernel_rfl) Try.func6 (by kernel_rfl)
    (of_decide_eq_true (by kernel_rfl)) (by unfold Func.isWrapper; first | (rw [if_pos (by decide +kernel)]; kernel_rfl) | (rw [if_neg (by decide +kernel)]; exact ⟨rfl, rfl⟩))
    (fun os started H enc _ => lifted os started H enc)

/-- ████ THE STATEMENT ████ -/
theorem proved : Rows.FieldPowerSaid :=
  over
#print axioms proved
end Go.Proofs.Ytaomohcidooabaa.fieldPower
