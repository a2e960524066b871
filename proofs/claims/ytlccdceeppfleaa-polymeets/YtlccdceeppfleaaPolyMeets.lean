/- B3 (PolyMeets): what Meet gives, when it gives anything, is trimmed, no longer than the points, and takes each value at its point. The walk of the law over meet_any, begun_any, trim_any, same_any, value_any. -/
import Derived.Test.YtlccdceeppfleaaRows
import Derived.Test.YtlccdceeppfleaaPolyA
import Derived.WalkKit
import Derived.ProofKit
import Derived.OpenShut
import Derived.ShutString
import Derived.ChangeOld
import Derived.Below
import Derived.SizedLaws
namespace Go.Proofs.Ytlccdceeppfleaa.polyMeets
open Go.ChangeShapes Go.WideShapes Go.ChangeAt Go.RowKit
open Go.ChangeMaps (open_string shut_string)
set_option linter.unusedVariables false

theorem own : ownKnob Try.prog.godebug = none := by kernel_rfl
theorem laidOut : laidOutB Try.prog = true := by kernel_rfl

theorem ret_true {b : Bool} (h : b = true) : Ending.returned (.bool b) = .returned (.bool true) := by rw [h]
set_option maxRecDepth 100000 in
set_option maxHeartbeats 2000000 in
theorem walk_err (v0 : Value) (v1 : Value) (a2 : Int) (er : Int) (her : (er != 0) = true) (w : World)
    (hm : Calls Try.prog 11 #[v0, v1] w fun e w' => e = .returned (.tuple #[.slice none 0 0, .int .i64 er]) ∧ Below w.heap.size w w') :
    Calls Try.prog 7 #[v0, v1, .int .i64 a2] w fun e w' => e = .returned (.bool true) ∧ Below w.heap.size w w' := by
  have Hm := hid_of hm
  clear hm
  go_enter Try.func7, Try.ntmps7
  go_wp2_with fail
  refine Hm.out.mono ?_
  rintro e w1 ⟨rfl, hB1⟩
  go_wp2_with fail
  refine (begun_any _).mono ?_
  rintro e w2 ⟨rfl, hB2⟩
  go_wp2_with fail
  go_ret
  exact ⟨rfl, hB1.trans (hB2.mono hB1.size)⟩
set_option maxRecDepth 100000 in
set_option maxHeartbeats 4000000 in
theorem walk_ok (v0 : Value) (L0 : List Nat) (v1 : Value) (L1 : List Nat) (a2 : Int) (w : World) (w0 : Bs w.heap.size w v0 L0) (w1 : Bs w.heap.size w v1 L1) (hlen : L1.length = L0.length) (T : List Nat)
    (hm : Calls Try.prog 11 #[v0, v1] w fun e w' => ∃ v, e = .returned (.tuple #[v, .int .i64 0]) ∧ Ow w.heap.size w' v T ∧ Below w.heap.size w w')
    (hT : trim T = T) (hTl : T.length ≤ L0.length) (hv : ∀ j, j < L0.length → pval T (L0[j]?.getD 0) = L1[j]?.getD 0) :
    Calls Try.prog 7 #[v0, v1, .int .i64 a2] w fun e w' => e = .returned (.bool true) ∧ Below w.heap.size w w' := by
  have Hm := hid_of hm
  have HT := hid_of hT
  have HV := hid_of hv
  have H0 := hid_of w0
  have H1 := hid_of w1
  have HL := hid_of hlen
  obtain ⟨_, p2, ao, cap, rfl, _, _, p6⟩ := w0
  obtain ⟨_, q2, bo, cbp, rfl, _, _, q6⟩ := w1
  have P6 := hid_of p6
  have Q6 := hid_of q6
  have hgt : decide ((L0.length : Int) < (T.length : Int)) = false := decide_eq_false (by omega)
  clear hm hT hv hlen p6 q6
  have hmx : Try.prog.follows Departure.mixedOrders = true := by kernel_rfl
  by_cases c1 : a2 < 0
  · have hd1 : decide (a2 < 0) = true := decide_eq_true c1
    go_enter Try.func7, Try.ntmps7
    go_wp2_with fail
    refine Hm.out.mono ?_
    rintro e w1 ⟨v, rfl, hO, hB1⟩
    obtain ⟨va, vc, hvs⟩ := hO.shape
    subst hvs
    have HO := hid_of hO
    go_wp2_with fail
    refine (begun_any _).mono ?_
    rintro e w2 ⟨rfl, hB2⟩
    have B2 := hB1.trans (hB2.mono hB1.size)
    have s2 := hid_of ((HO.out.bs.below hB2).mono hB2.size)
    clear hO
    go_wp2_with fail
    refine (trim_any _ T _ s2.out).mono ?_
    rintro e w3 ⟨v3, rfl, hO3, hB3⟩
    have B3 := B2.trans (hB3.mono B2.size)
    have s3 := hid_of ((s2.out.below hB3).mono hB3.size)
    rw [HT.out] at hO3
    have t3 := hid_of hO3.bs
    clear hO3
    go_wp2_with fail
    refine (same_any _ _ T T _ _ t3.out s3.out).mono ?_
    rintro e w4 ⟨rfl, hB4⟩
    rw [decide_eq_true rfl]
    have B4 := hid_of (B3.trans (hB4.mono B3.size))
    go_wp2_with fail
    go_quiet (fail)
    go_wp2_with fail
    go_ret
    exact ⟨rfl, below_drewN _ B4.out⟩
  · by_cases c2 : (L0.length : Int) ≤ a2
    · have hd1 : decide (a2 < 0) = false := decide_eq_false c1
      have hd2 : decide ((L0.length : Int) ≤ a2) = true := decide_eq_true c2
      go_enter Try.func7, Try.ntmps7
      go_wp2_with fail
      refine Hm.out.mono ?_
      rintro e w1 ⟨v, rfl, hO, hB1⟩
      obtain ⟨va, vc, hvs⟩ := hO.shape
      subst hvs
      have HO := hid_of hO
      go_wp2_with fail
      refine (begun_any _).mono ?_
      rintro e w2 ⟨rfl, hB2⟩
      have B2 := hB1.trans (hB2.mono hB1.size)
      have s2 := hid_of ((HO.out.bs.below hB2).mono hB2.size)
      clear hO
      go_wp2_with fail
      refine (trim_any _ T _ s2.out).mono ?_
      rintro e w3 ⟨v3, rfl, hO3, hB3⟩
      have B3 := B2.trans (hB3.mono B2.size)
      have s3 := hid_of ((s2.out.below hB3).mono hB3.size)
      rw [HT.out] at hO3
      have t3 := hid_of hO3.bs
      clear hO3
      go_wp2_with fail
      refine (same_any _ _ T T _ _ t3.out s3.out).mono ?_
      rintro e w4 ⟨rfl, hB4⟩
      rw [decide_eq_true rfl]
      have B4 := hid_of (B3.trans (hB4.mono B3.size))
      go_wp2_with fail
      go_quiet (fail)
      go_wp2_with fail
      go_ret
      exact ⟨rfl, below_drewN _ B4.out⟩
    · obtain ⟨k, rfl⟩ := Int.eq_ofNat_of_zero_le (show 0 ≤ a2 by omega)
      have hd1 : decide (((k : Nat) : Int) < 0) = false := decide_eq_false c1
      have hd2 : decide ((L0.length : Int) ≤ ((k : Nat) : Int)) = false := decide_eq_false c2
      have hk : k < L0.length := by omega
      have hk1 : k < L1.length := by have := HL.out; omega
      rcases P6.out with h | ⟨b, off, rfl, hb, hc⟩
      · rw [h] at hk; simp at hk
      rcases Q6.out with h | ⟨b', off', rfl, hb', hc'⟩
      · rw [h] at hk1; simp at hk1
      have hx := hc k hk
      have hy := hc' k hk1
      obtain ⟨x, hxe⟩ : ∃ x, L0[k]?.getD 0 = x := ⟨_, rfl⟩
      obtain ⟨y, hye⟩ : ∃ y, L1[k]?.getD 0 = y := ⟨_, rfl⟩
      have hx2 : x < 256 := by rw [← hxe]; exact getD_lt H0.out.1 k
      have hvk := HV.out k hk
      rw [hxe, hye] at hvk
      rw [hxe] at hx
      rw [hye] at hy
      have HVk := hid_of hvk
      have HX := hid_of hx
      have HY := hid_of hy
      clear hc hc' hxe hye hvk hx hy
      go_enter Try.func7, Try.ntmps7
      go_wp2_with fail
      refine Hm.out.mono ?_
      rintro e w1 ⟨v, rfl, hO, hB1⟩
      obtain ⟨va, vc, hvs⟩ := hO.shape
      subst hvs
      have HO := hid_of hO
      go_wp2_with fail
      refine (begun_any _).mono ?_
      rintro e w2 ⟨rfl, hB2⟩
      have B2 := hB1.trans (hB2.mono hB1.size)
      have s2 := hid_of ((HO.out.bs.below hB2).mono hB2.size)
      clear hO
      go_wp2_with fail
      refine (trim_any _ T _ s2.out).mono ?_
      rintro e w3 ⟨v3, rfl, hO3, hB3⟩
      have B3 := B2.trans (hB3.mono B2.size)
      have s3 := hid_of ((s2.out.below hB3).mono hB3.size)
      rw [HT.out] at hO3
      have t3 := hid_of hO3.bs
      clear hO3
      go_wp2_with fail
      refine (same_any _ _ T T _ _ t3.out s3.out).mono ?_
      rintro e w4 ⟨rfl, hB4⟩
      rw [decide_eq_true rfl]
      have B4 := hid_of (B3.trans (hB4.mono B3.size))
      go_wp2_with fail
      have hx4 := (B4.out.cell (p := ⟨b, off + k, none⟩) hb).trans HX.out
      have hy4 := (B4.out.cell (p := ⟨b', off' + k, none⟩) hb').trans HY.out
      have hby : b' < w4.heap.size := cell_lt hy4
      have s4 := hid_of ((s3.out.below hB4).mono hB4.size)
      have hcx : ∀ w', Below w4.heap.size w4 w' → w'.cell? ⟨b, off + k, none⟩ = some (.int .u8 x) := fun w' h => (h.cell (p := ⟨b, off + k, none⟩) (cell_lt hx4)).trans hx4
      have hcy : ∀ w', Below w4.heap.size w4 w' → w'.cell? ⟨b', off' + k, none⟩ = some (.int .u8 y) := fun w' h => (h.cell (p := ⟨b', off' + k, none⟩) hby).trans hy4
      have HCX := hid_of hcx
      have HCY := hid_of hcy
      clear hcx hcy hx4 hy4
      refine wp_region_quiet (C := fun w' => Below w4.heap.size w4 w') hmx (by kernel_rfl) ((Below.refl _ _).drew) ?_
      repeat
        refine wpQuiet_step (fun K hK => ?_)
        go_simp
        first
          | (refine ⟨_, fun w' hw' => rfl, hK _ ?_⟩; clear hK K)
          | (refine ⟨.int .u8 x, fun w' hw' => ?_, hK _ ?_⟩; (rw [HCX.out w' hw']; exact ⟨rfl, rfl⟩); clear hK K)
          | (refine ⟨.int .u8 y, fun w' hw' => ?_, hK _ ?_⟩; (rw [HCY.out w' hw']; exact ⟨rfl, rfl⟩); clear hK K)
          | (refine ⟨.int .u8 y, fun w' hw' => ?_, hK _ ?_⟩
             · refine (value_any _ _ (by omega) (by omega) T _ ((s4.out.below hw').mono hw'.size)).mono ?_
               rintro e w5 ⟨rfl, hB5⟩
               rw [Int.toNat_natCast, HVk.out]
               exact ⟨rfl, hw'.trans (hB5.mono hw'.size)⟩
             clear hK K)
      refine wpQuiet_nil ?_
      intro w' hw'
      go_wp2_with fail
      go_ret
      exact ⟨rfl, B4.out.trans (hw'.mono B4.out.size)⟩
theorem walk (v0 : Value) (L0 : List Nat) (v1 : Value) (L1 : List Nat) (a2 : Int) (w : World) (w0 : Bs w.heap.size w v0 L0) (w1 : Bs w.heap.size w v1 L1) (w2 : (Lit.int .i64 a2).wf = true) :
    Calls Try.prog 7 #[v0, v1, .int .i64 a2] w fun e w' => e = .returned (.bool true) ∧ Below w.heap.size w w' := by
  by_cases h1 : 64 < L0.length
  · exact walk_err v0 v1 a2 2 (by decide) w (meet_long v0 v1 L0 L1 w w0 w1 h1)
  · by_cases h2 : L0.length = L1.length
    · have hm := meet_any v0 v1 L0 L1 w w0 w1 (by omega) h2.symm
      cases hs : mst L0 L1 L0.length with
      | none =>
        rw [hs] at hm
        exact walk_err v0 v1 a2 6 (by decide) w hm
      | some s =>
        rw [hs] at hm
        obtain ⟨M, G⟩ := s
        obtain ⟨i1, i2, i3, i4, i5⟩ := mst_meets w0.1 w1.1 L0.length (Nat.le_refl _) M G hs
        refine walk_ok v0 L0 v1 L1 a2 w w0 w1 h2.symm (trim M) (hm.mono ?_) (trim_trim M) (by have := trim_len M; omega) (fun j hj => by rw [pval_trim]; exact (i5 j hj).1)
        rintro e w' ⟨⟨v, he, hO⟩, hB⟩
        exact ⟨v, he, hO, hB⟩
    · exact walk_err v0 v1 a2 1 (by decide) w (meet_form v0 v1 L0 L1 w w0 w1 (by omega) h2)

/-! ### THE ROW's STEP: WRITTEN OUT: LEAVE IT -/
set_option maxRecDepth 100000 in
theorem lifted (os : Os) (started : os.Started) (H : Type) (enc : TypeId × Value → H) :
    ReturnsInHanded {} Try.checked os 7 .any (Rows.polyMeetsSpec.pre6 enc Try.prog Try.f7 Rows.polyMeetsRow.domain false) (Rows.polyMeetsSpec.post enc Try.prog Try.f7 false true false false) := by
  refine returnsInHanded_of_change_sized (C := Try.checked) own started (by kernel_rfl) Try.func7
    (ChangeSpec.witness6 (enc := enc) (C := Try.checked) false ⟨#[], #[.slice none 0 0, .slice none 0 0, .int .i64 0], []⟩ 8 (by kernel_rfl) (by kernel_rfl) (by kernel_rfl) (by kernel_rfl)) ?_
  intro W base args ds gs before hval0 hW hcnd hsz0 _
  have hsz : (DataW.weightsEach Try.prog (Try.f7.params.toList ++ Rows.polyMeetsSpec.plain.varTypes Try.prog) (ds ++ gs)).all (· ≤ reachBytes) = true := hsz0
  clear hsz0
  have hval : ∀ (j : Nat) t v, Try.f7.params[j]? = some t → args[j]? = some v → Value.okWide Try.prog W .any base t v := hval0
  have hW' := hW
  obtain ⟨p, q, hA0, hV, rfl, hfz, hnd⟩ := hW
  have hA : DataW.TrodAll enc Try.prog W 0 (fun _ => true) true Try.f7.params.toList args.toList ds p := hA0
  rw [Try.params7] at hA hval hsz
  obtain ⟨v0, vs0, d0, ds0, p0, q0, hargs, rfl, rfl, h0, r0⟩ := trodAll_cons hA
  obtain ⟨v1, vs1, d1, ds1, p1, q1, rfl, rfl, rfl, h1, r1⟩ := trodAll_cons r0
  obtain ⟨v2, vs2, d2, ds2, p2, q2, rfl, rfl, rfl, h2, r2⟩ := trodAll_cons r1
  obtain ⟨rfl, rfl, rfl⟩ := trodAll_nil r2
  obtain rfl : args = #[v0, v1, v2] := by cases args; simp_all
  obtain ⟨rfl, rfl⟩ := trodVars_none hV
  obtain ⟨a0, len0, cap0, rfl⟩ := okWide_slice Try.underlying22 (hval 0 22 v0 rfl rfl)
  have k0 := h0
  have lt0 : ∀ x ∈ p0, x.block < W.heap.size := by obtain ⟨m, hm⟩ := k0; exact DataW.trod_lt m _ _ _ hm
  obtain ⟨L0, w0⟩ : ∃ L, Bs W.heap.size W (.slice a0 len0 cap0) L := by
    obtain ⟨fuel, hf⟩ := h0
    rcases open_ints Try.underlying22 Try.underlying5 (by kernel_rfl) hf with ⟨hcs, _⟩ | ⟨x, l, c, zs, hcs, _, hl, hm, hz, hx, hcell, hwz⟩
    · simp [Value.cells] at hcs
      obtain ⟨rfl, rfl, rfl⟩ := hcs
      exact ⟨[], Bs.nil _ _⟩
    · simp [Value.cells] at hcs
      obtain ⟨rfl, rfl, rfl⟩ := hcs
      have e0 := (Prod.mk.inj hx).1
      have hb := sized_slice hsz (j := 0) (t := 22) (e := 5) rfl (congrArg some e0) Try.underlying22
      rw [show Try.prog.bytesOf 5 = 1 by kernel_rfl] at hb
      simp only [lits, List.length_map, List.length_take, List.length_drop, reachBytes] at hb
      simp only [if_true] at hz
      obtain ⟨L, hL, _⟩ := isRow_bs (.inr ⟨_, rfl, hl, hm, hz, hcell, hwz⟩) (by omega)
      exact ⟨L, hL⟩
  obtain ⟨a1, len1, cap1, rfl⟩ := okWide_slice Try.underlying22 (hval 1 22 v1 rfl rfl)
  have k1 := h1
  have lt1 : ∀ x ∈ p1, x.block < W.heap.size := by obtain ⟨m, hm⟩ := k1; exact DataW.trod_lt m _ _ _ hm
  obtain ⟨L1, w1⟩ : ∃ L, Bs W.heap.size W (.slice a1 len1 cap1) L := by
    obtain ⟨fuel, hf⟩ := h1
    rcases open_ints Try.underlying22 Try.underlying5 (by kernel_rfl) hf with ⟨hcs, _⟩ | ⟨x, l, c, zs, hcs, _, hl, hm, hz, hx, hcell, hwz⟩
    · simp [Value.cells] at hcs
      obtain ⟨rfl, rfl, rfl⟩ := hcs
      exact ⟨[], Bs.nil _ _⟩
    · simp [Value.cells] at hcs
      obtain ⟨rfl, rfl, rfl⟩ := hcs
      have e0 := (Prod.mk.inj hx).1
      have hb := sized_slice hsz (j := 1) (t := 22) (e := 5) rfl (congrArg some e0) Try.underlying22
      rw [show Try.prog.bytesOf 5 = 1 by kernel_rfl] at hb
      simp only [lits, List.length_map, List.length_take, List.length_drop, reachBytes] at hb
      simp only [if_true] at hz
      obtain ⟨L, hL, _⟩ := isRow_bs (.inr ⟨_, rfl, hl, hm, hz, hcell, hwz⟩) (by omega)
      exact ⟨L, hL⟩
  obtain ⟨a2, rfl, rfl, rfl, w2⟩ := open_int Try.underlying3 (hval 2 3 v2 rfl rfl) h2
  clear hA0 hval0
  refine (walk _ L0 _ L1 a2 W w0 w1 w2).mono fun e W' ⟨he, bel⟩ => ?_
  subst he
  exact ⟨_, rfl, _, _, _, [], _, [], hW', trodAll_mk1 (shut_bool Try.underlying4 _), (trodAll_cons_mk (Below.trod laidOut (by kernel_rfl) (of_decide_eq_true (by kernel_rfl)) k0 bel lt0) (trodAll_cons_mk (Below.trod laidOut (by kernel_rfl) (of_decide_eq_true (by kernel_rfl)) k1 bel lt1) (trodAll_cons_mk (shut_int Try.underlying3 w2) trodAll_mk0))), rfl, bel.frame _, fun h => by cases h⟩

theorem over : Rows.polyMeetsRow.holds Try.pinned (OpenSpec.ofChange Rows.polyMeetsSpec) :=
  OpenClaim.holds_of_wide 7 Try.f7 rfl rfl rfl rfl rfl rfl rfl ⟨rfl, rfl, rfl, rfl, rfl⟩ rfl rfl rfl rfl rfl (by kernel_rfl) Try.func7 (by kernel_rfl)
    (of_decide_eq_true (by kernel_rfl)) (by unfold Func.isWrapper; first | (rw [if_pos (by decide +kernel)]; kernel_rfl) | (rw [if_neg (by decide +kernel)]; exact ⟨rfl, rfl⟩))
    (fun os started H enc _ => lifted os started H enc)

/-- ████ THE STATEMENT ████ -/
theorem proved : Rows.PolyMeetsSaid := over
#print axioms proved
end Go.Proofs.Ytlccdceeppfleaa.polyMeets
