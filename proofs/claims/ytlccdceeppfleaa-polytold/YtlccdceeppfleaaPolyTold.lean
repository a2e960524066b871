/- For every two lists of bytes PolyTold answers true, and nothing that was handed in is changed. -/
import Derived.Test.YtlccdceeppfleaaRows
import Derived.Test.YtlccdceeppfleaaZero
import Derived.WalkKit
import Derived.ProofKit
import Derived.OpenShut
import Derived.ShutString
import Derived.ChangeOld
import Derived.Below
import Derived.SizedLaws
namespace Go.Proofs.Ytlccdceeppfleaa.polyTold
open Go.ChangeShapes Go.WideShapes Go.ChangeAt Go.RowKit
open Go.ChangeMaps (open_string shut_string)
set_option linter.unusedVariables false

theorem own : ownKnob Try.prog.godebug = none := by kernel_rfl
theorem laidOut : laidOutB Try.prog = true := by kernel_rfl

theorem meet_all (xv yv : Value) (xs P : List Nat) (w : World) (hP : Byt P) (hX : Bs w.heap.size w xv xs) (hY : Bs w.heap.size w yv (xs.map (pval P))) :
    Calls Try.prog 11 #[xv, yv] w fun e w' => (∃ v er, e = .returned (.tuple #[v, .int .i64 er]) ∧ ((er != 0) = true ∨ (er = 0 ∧ ∃ T, Ow w.heap.size w' v T ∧ ((trim P).length ≤ xs.length → T = trim P)))) ∧ Below w.heap.size w w' := by
  by_cases h1 : 64 < xs.length
  · refine (meet_long xv yv _ _ w hX hY h1).mono ?_
    rintro e w' ⟨rfl, hB⟩
    exact ⟨⟨_, _, rfl, .inl (by decide)⟩, hB⟩
  · refine (meet_any xv yv _ _ w hX hY (by omega) (by simp)).mono ?_
    rintro e w' ⟨hE, hB⟩
    refine ⟨?_, hB⟩
    cases hs : mst xs (xs.map (pval P)) xs.length with
    | none =>
      rw [hs] at hE
      exact ⟨_, _, hE, .inl (by decide)⟩
    | some s =>
      rw [hs] at hE
      obtain ⟨M, G⟩ := s
      obtain ⟨v, he, hO⟩ := hE
      exact ⟨_, _, he, .inr ⟨rfl, _, hO, fun hl => mst_told hX.1 hP hl rfl hs⟩⟩
theorem take_map_succ (P xs : List Nat) {k : Nat} (h : k < xs.length) : (xs.take (k + 1)).map (pval P) = (xs.take k).map (pval P) ++ [pval P (xs[k]?.getD 0)] := by
  rw [List.take_succ_eq_append_getElem h, List.map_append, List.getElem?_eq_getElem h]
  rfl
theorem take_map_len (P xs : List Nat) {k : Nat} (h : k ≤ xs.length) : ((xs.take k).map (pval P)).length = k := by simp; omega
set_option maxRecDepth 100000 in
set_option maxHeartbeats 4000000 in
theorem walk (v0 : Value) (L0 : List Nat) (v1 : Value) (L1 : List Nat) (w : World) (w0 : Bs w.heap.size w v0 L0) (w1 : Bs w.heap.size w v1 L1) :
    Calls Try.prog 8 #[v0, v1] w fun e w' => e = .returned (.bool true) ∧ Below w.heap.size w w' := by
  have H0 := hid_of w0
  have H1 := hid_of w1
  obtain ⟨p1, p2, ao, cap, rfl, _, _, p6⟩ := w0
  obtain ⟨q1, q2, bo, cbp, rfl, _, _, q6⟩ := w1
  have Q6 := hid_of q6
  obtain ⟨i0, hi, hz0, hz1, hz2⟩ := info_parts info5
  obtain ⟨lt, hlt⟩ : ∃ m, (trim L0).length = m := ⟨_, rfl⟩
  have LT := hid_of hlt
  clear p1 q1 p6 q6 hlt
  go_enter Try.func8, Try.ntmps8
  go_wp2_with fail
  refine (begun_any _).mono ?_
  rintro e w1 ⟨rfl, hB1⟩
  go_wp2_with fail
  go_loopw [5, 6] (fun v i w' => ∃ k : Nat, k ≤ L1.length ∧ i = .int .i64 k ∧ Hid (Ow w.heap.size w' v ((L1.take k).map (pval L0))) ∧ Hid (Below w.heap.size w w')) (fun _ i _ => L1.length - (intOf i).toNat)
  case atStart => exact ⟨0, by omega, rfl, ⟨World.ownsRow_nil _ _ _ _, by simp, by simp⟩, hB1⟩
  case round =>
    obtain ⟨k, hk, rfl, HO, HB⟩ := hrel
    obtain ⟨va, vc, hvs⟩ := HO.out.shape
    rw [take_map_len _ _ hk] at hvs
    subst hvs
    by_cases hp : k < L1.length
    · have dp : decide ((k : Int) < (L1.length : Int)) = true := decide_eq_true (by omega)
      rcases Q6.out with h | ⟨b, off, rfl, hb, hc⟩
      · rw [h] at hp; simp at hp
      have hx := (HB.out.cell (p := ⟨b, off + k, none⟩) hb).trans (hc k hp)
      have hx2 : L1[k]?.getD 0 < 256 := getD_lt H1.out.1 k
      have hsn := take_map_succ L0 L1 hp
      have hvl := pval_lt H0.out.1 (L1[k]?.getD 0)
      obtain ⟨x, hxe⟩ : ∃ x, L1[k]?.getD 0 = x := ⟨_, rfl⟩
      rw [hxe] at hx hx2 hsn hvl
      obtain ⟨y, hye⟩ : ∃ y, pval L0 x = y := ⟨_, rfl⟩
      rw [hye] at hsn hvl
      have HY := hid_of hye
      have HS := hid_of hsn
      clear hc hxe hye hsn
      go_wp2_with fail
      refine (value_any _ _ (by omega) (by omega) L0 _ ((H0.out.below HB.out).mono HB.out.size)).mono ?_
      rintro e w2 ⟨rfl, hB2⟩
      rw [Int.toNat_natCast, HY.out]
      have B2 := hid_of (HB.out.trans (hB2.mono HB.out.size))
      have O2 := hid_of (HO.out.below hB2 (Nat.le_refl _))
      have HOA := hid_of (O2.out.below ((Below.refl w2.heap.size w2).alloc (Nat.le_refl _) (.cells #[.int .u8 ((y : Nat) : Int)] 5)) (Nat.le_refl _))
      have HBA := hid_of (B2.out.alloc B2.out.size (.cells #[.int .u8 ((y : Nat) : Int)] 5))
      have TL := hid_of (take_map_len L0 L1 hk)
      clear hB2
      go_wp2_with (at_builtin; refine wpList_append_own _ rfl _ _ 22 rfl w.heap.size 5 i0 (.int .u8 0) 1 1 und22 hi hz0 hz1 hz2 rfl (by decide) _ k (cellsB ((L1.take k).map (pval L0))) rfl (by have h := HOA.out.1; rw [TL.out] at h; exact h) ⟨w2.heap.size, 0, none⟩ 1 1 [.int .u8 ((y : Nat) : Int)] rfl rfl (fun j u hj => by exact news_one w2 _ j u hj) (by simp [Value.oneCell']) (by unfold maxLen; omega) (by omega) (by have := B2.out.size; simp; omega) ?_; intro v' w3 hown hgrow hnil)
      go_roundw
      case rel =>
        refine ⟨k + 1, by omega, by go_num, ?_, HBA.out.grown hgrow (by have := B2.out.size; simp; omega) HOA.out.block_le⟩
        rw [HS.out]
        exact ow_snoc HOA.out (by rw [TL.out]; omega) hvl (by rw [TL.out]; exact hown)
      case measure => simp [intOf]; omega
    · have hke : k = L1.length := by omega
      subst hke
      have TK : Hid (L1.take L1.length = L1) := hid_of (List.take_of_length_le (Nat.le_refl _))
      rw [TK.out] at HO
      have sO := hid_of HO.out.bs
      clear HO
      go_wp2_with fail
      refine (trim_any _ L0 _ ((H0.out.below HB.out).mono HB.out.size)).mono ?_
      rintro e w2 ⟨vt, rfl, hO, hB2⟩
      obtain ⟨at', ct, hsh⟩ := hO.shape
      rw [LT.out] at hsh
      subst hsh
      have Ht := hid_of hO.bs
      have S2 := hid_of ((sO.out.below hB2).mono hB2.size)
      have B2 := hid_of (HB.out.trans (hB2.mono HB.out.size))
      clear hO hB2
      go_wp2_with fail
      refine (meet_all _ _ L1 L0 _ H0.out.1 ((H1.out.below B2.out).mono B2.out.size) S2.out).mono ?_
      rintro e w3 ⟨⟨vq, er, rfl, hE⟩, hB3⟩
      have B3 := hid_of (B2.out.trans (hB3.mono B2.out.size))
      have T3 := hid_of ((Ht.out.below hB3).mono hB3.size)
      clear hB3
      rcases hE with he | ⟨rfl, T, hO, hT⟩
      · go_wp2_with fail
        go_ret
        exact ⟨rfl, B3.out⟩
      · rw [LT.out] at hT
        have Q3 := hid_of hO.bs
        clear hO
        by_cases c : L1.length < lt
        · have z1 : decide ((L1.length : Int) < (lt : Int)) = true := decide_eq_true (by omega)
          have z2 : decide (L1.length < lt) = true := decide_eq_true c
          go_wp2_with fail
          go_ret
          exact ⟨rfl, B3.out⟩
        · have z1 : decide ((L1.length : Int) < (lt : Int)) = false := decide_eq_false (by omega)
          have z2 : decide (L1.length < lt) = false := decide_eq_false c
          have HT := hid_of (hT (by omega))
          clear hT
          go_wp2_with fail
          refine (same_any _ _ T (trim L0) _ _ Q3.out T3.out).mono ?_
          rintro e w4 ⟨rfl, hB4⟩
          rw [decide_eq_true HT.out]
          have B4 := hid_of (B3.out.trans (hB4.mono B3.out.size))
          go_wp2_with fail
          go_ret
          exact ⟨rfl, B4.out⟩

/-! ### THE ROW's STEP: WRITTEN OUT: LEAVE IT -/
set_option maxRecDepth 100000 in
theorem lifted (os : Os) (started : os.Started) (H : Type) (enc : TypeId × Value → H) :
    ReturnsInHanded {} Try.checked os 8 .any (Rows.polyToldSpec.pre6 enc Try.prog Try.f8 Rows.polyToldRow.domain false) (Rows.polyToldSpec.post enc Try.prog Try.f8 false true false false) := by
  refine returnsInHanded_of_change_sized (C := Try.checked) own started (by kernel_rfl) Try.func8
    (ChangeSpec.witness6 (enc := enc) (C := Try.checked) false ⟨#[], #[.slice none 0 0, .slice none 0 0], []⟩ 8 (by kernel_rfl) (by kernel_rfl) (by kernel_rfl) (by kernel_rfl)) ?_
  intro W base args ds gs before hval0 hW hcnd hsz0 _
  have hsz : (DataW.weightsEach Try.prog (Try.f8.params.toList ++ Rows.polyToldSpec.plain.varTypes Try.prog) (ds ++ gs)).all (· ≤ reachBytes) = true := hsz0
  clear hsz0
  have hval : ∀ (j : Nat) t v, Try.f8.params[j]? = some t → args[j]? = some v → Value.okWide Try.prog W .any base t v := hval0
  have hW' := hW
  obtain ⟨p, q, hA0, hV, rfl, hfz, hnd⟩ := hW
  have hA : DataW.TrodAll enc Try.prog W 0 (fun _ => true) true Try.f8.params.toList args.toList ds p := hA0
  rw [Try.params8] at hA hval hsz
  obtain ⟨v0, vs0, d0, ds0, p0, q0, hargs, rfl, rfl, h0, r0⟩ := trodAll_cons hA
  obtain ⟨v1, vs1, d1, ds1, p1, q1, rfl, rfl, rfl, h1, r1⟩ := trodAll_cons r0
  obtain ⟨rfl, rfl, rfl⟩ := trodAll_nil r1
  obtain rfl : args = #[v0, v1] := by cases args; simp_all
  obtain ⟨rfl, rfl⟩ := trodVars_none hV
  obtain ⟨a0, len0, cap0, rfl⟩ := okWide_slice Try.underlying22 (hval 0 22 v0 rfl rfl)
  have k0 := h0
  have lt0 : ∀ x ∈ p0, x.block < W.heap.size := by obtain ⟨m, hm⟩ := k0; exact DataW.trod_lt m _ _ _ hm
  obtain ⟨L0, w0⟩ : ∃ L, Bs W.heap.size W (.slice a0 len0 cap0) L := by
    obtain ⟨fuel, hf⟩ := h0
    rcases open_ints Try.underlying22 Try.underlying5 (by kernel_rfl) hf with ⟨hcs, _⟩ | ⟨x, l, c, zs, hcs, _, hl, hm, hz, hx, hcell, hwz⟩
    · simp [Value.cells] at hcs
      obtain ⟨rfl, rfl, rfl⟩ := hcs
      exact ⟨[], Bs.nil _ _⟩
    · simp [Value.cells] at hcs
      obtain ⟨rfl, rfl, rfl⟩ := hcs
      have e0 := (Prod.mk.inj hx).1
      have hb := sized_slice hsz (j := 0) (t := 22) (e := 5) rfl (congrArg some e0) Try.underlying22
      rw [show Try.prog.bytesOf 5 = 1 by kernel_rfl] at hb
      simp only [lits, List.length_map, List.length_take, List.length_drop, reachBytes] at hb
      simp only [if_true] at hz
      obtain ⟨L, hL, _⟩ := isRow_bs (.inr ⟨_, rfl, hl, hm, hz, hcell, hwz⟩) (by omega)
      exact ⟨L, hL⟩
  obtain ⟨a1, len1, cap1, rfl⟩ := okWide_slice Try.underlying22 (hval 1 22 v1 rfl rfl)
  have k1 := h1
  have lt1 : ∀ x ∈ p1, x.block < W.heap.size := by obtain ⟨m, hm⟩ := k1; exact DataW.trod_lt m _ _ _ hm
  obtain ⟨L1, w1⟩ : ∃ L, Bs W.heap.size W (.slice a1 len1 cap1) L := by
    obtain ⟨fuel, hf⟩ := h1
    rcases open_ints Try.underlying22 Try.underlying5 (by kernel_rfl) hf with ⟨hcs, _⟩ | ⟨x, l, c, zs, hcs, _, hl, hm, hz, hx, hcell, hwz⟩
    · simp [Value.cells] at hcs
      obtain ⟨rfl, rfl, rfl⟩ := hcs
      exact ⟨[], Bs.nil _ _⟩
    · simp [Value.cells] at hcs
      obtain ⟨rfl, rfl, rfl⟩ := hcs
      have e0 := (Prod.mk.inj hx).1
      have hb := sized_slice hsz (j := 1) (t := 22) (e := 5) rfl (congrArg some e0) Try.underlying22
      rw [show Try.prog.bytesOf 5 = 1 by kernel_rfl] at hb
      simp only [lits, List.length_map, List.length_take, List.length_drop, reachBytes] at hb
      simp only [if_true] at hz
      obtain ⟨L, hL, _⟩ := isRow_bs (.inr ⟨_, rfl, hl, hm, hz, hcell, hwz⟩) (by omega)
      exact ⟨L, hL⟩
  clear hA0 hval0
  refine (walk _ L0 _ L1 W w0 w1).mono fun e W' ⟨he, bel⟩ => ?_
  subst he
  exact ⟨_, rfl, _, _, _, [], _, [], hW', trodAll_mk1 (shut_bool Try.underlying4 _), (trodAll_cons_mk (Below.trod laidOut (by kernel_rfl) (of_decide_eq_true (by kernel_rfl)) k0 bel lt0) (trodAll_cons_mk (Below.trod laidOut (by kernel_rfl) (of_decide_eq_true (by kernel_rfl)) k1 bel lt1) trodAll_mk0)), rfl, bel.frame _, fun h => by cases h⟩

theorem over : Rows.polyToldRow.holds Try.pinned (OpenSpec.ofChange Rows.polyToldSpec) :=
  OpenClaim.holds_of_wide 8 Try.f8 rfl rfl rfl rfl rfl rfl rfl ⟨rfl, rfl, rfl, rfl, rfl⟩ rfl rfl rfl rfl rfl (by kernel_rfl) Try.func8 (by kernel_rfl)
    (of_decide_eq_true (by kernel_rfl)) (by unfold Func.isWrapper; first | (rw [if_pos (by decide +kernel)]; kernel_rfl) | (rw [if_neg (by decide +kernel)]; exact ⟨rfl, rfl⟩))
    (fun os started H enc _ => lifted os started H enc)

/-- ████ THE STATEMENT ████ -/
theorem proved : Rows.PolyToldSaid := over
#print axioms proved
end Go.Proofs.Ytlccdceeppfleaa.polyTold
