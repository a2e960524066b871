/- Proved: for every text and every list of numbers the statement WordAll of the program answers true, with no condition but that the tables lie as the program's text lays them: one bit of each word of a text may turn, and it is read as it was; as many were mended as turned. -/
import Derived.Test.YtiiickinlklelabDoorAl
import Derived.BigRegion
import Derived.ShutString
import Derived.ChangeOld
import Derived.SizedLaws
namespace Go.Proofs.YtiiickinlklelabDoor.wordAll
open Go.ChangeShapes Go.WideShapes Go.ChangeAt Go.RowKit Go.Shelf
open Go.ChangeMaps (open_string shut_string)
set_option linter.unusedVariables false
theorem own : ownKnob Tryd.prog.godebug = none := by kernel_rfl
theorem laidOut : laidOutB Tryd.prog = true := by kernel_rfl
theorem ret_true {b : Bool} (h : b = true) : Ending.returned (.bool b) = .returned (.bool true) := by rw [h]
/-- a string's bytes, laid anew; they may be written -/
theorem conv_str2 (s : ByteArray) (w : World) : ∃ cap W, (convert 9 33 (.string s)).run Tryd.prog w = .ok (.slice (some ⟨w.heap.size, 0, none⟩) s.size cap) W ∧
    (∀ j, j < s.size → W.cell? ⟨w.heap.size, j, none⟩ = some (.int .u8 ((bl s)[j]?.getD 0 : Nat))) ∧ (∀ j, j < s.size → W.frozen? ⟨w.heap.size, j, none⟩ = false) ∧ Below w.heap.size w W ∧ W.heap.size = w.heap.size + 1 := by
  refine ⟨_, _, run_bytes_of_string w 9 33 5 s Tryd.underlying9 und33 Tryd.underlying5, ?_, ?_, ?_, ?_⟩
  · intro j hj
    refine (World.cell?_alloc_mark w.drew _ _ _ j).trans ?_
    rw [bytesRow_at s _ j hj, ← bl_at s j hj]
    rfl
  · intro j hj
    refine (World.frozen?_alloc_mark w.drew _ _ _ _ j).trans ?_
    have hl : s.size ≤ (bytesRow s (grownCap w s.size 0 5)).size := by
      unfold bytesRow
      rw [Array.size_append, Array.size_map]
      exact Nat.le_add_right _ _
    rw [decide_eq_false (by omega)]
    rfl
  · exact ((Below.refl _ w).drew).alloc (Nat.le_refl _) _
  · simp

set_option maxRecDepth 100000 in
set_option maxHeartbeats 2000000 in
theorem long_any (s : ByteArray) (hs : 64 < s.size) (v1 : Value) (w : World) (hG : Gl w) :
    Calls Tryd.prog 5 #[.string s, v1] w fun e w' => e = .returned (.bool true) ∧ Below w.heap.size w w' := by
  have ca := hid_of (writeAll_long s hs w)
  have cb := hid_of (begun_any w hG)
  have e0 : (mkS []).toList = [] := by decide +kernel
  clear hG hs
  go_enter Tryd.func5, Tryd.ntmps5
  go_wp2_with fail
  refine ca.out.mono ?_
  rintro e w1 ⟨rfl, rfl⟩
  go_wp2_with fail
  refine cb.out.mono ?_
  rintro e w2 ⟨rfl, hb2⟩
  go_wp2_with fail
  go_ret
  exact ⟨ret_true rfl, hb2⟩
theorem xor8 (y i : Nat) (hy : y < 256) (hi : i < 8) : bits .xor .u8 (y : Int) ((2 : Int) ^ i % 256) = ((y ^^^ 2 ^ i : Nat) : Int) := by
  have h : (2 : Nat) ^ i < 256 := Nat.pow_lt_pow_right (m := i) (n := 8) (by decide) hi
  have e : (2 : Int) ^ i % 256 = ((2 ^ i : Nat) : Int) := by
    have e1 : (2 : Int) ^ i = ((2 ^ i : Nat) : Int) := by push_cast; rfl
    rw [e1]
    clear e1
    generalize (2 : Nat) ^ i = P at h ⊢
    omega
  rw [e]
  exact u8_xor_nat y (2 ^ i) hy h
/-- the bytes of the words, k turns made, as they lie at block B -/
structure Tb (B : Nat) (S : List Nat) (T : List Int) (k : Nat) (w : World) : Prop where
  cell : ∀ i, i < 2 * S.length → w.cell? ⟨B, i, none⟩ = some (.int .u8 (tby S T k i : Nat))
  fr : ∀ i, i < 2 * S.length → w.frozen? ⟨B, i, none⟩ = false
theorem Tb.put {B k i : Nat} {S : List Nat} {T : List Int} {w : World} (h : Tb B S T k w) (hi : i < 2 * S.length) {y : Nat} (hy : ∀ j, tby S T (k + 1) j = if j = i then y else tby S T k j) :
    Tb B S T (k + 1) (w.setCell ⟨B, i, none⟩ (.int .u8 (y : Nat))).drew := by
  refine ⟨fun j hj => ?_, fun j hj => ?_⟩
  · show (w.setCell ⟨B, i, none⟩ (.int .u8 (y : Nat))).cell? ⟨B, j, none⟩ = _
    rw [hy]
    by_cases e : j = i
    · subst e
      rw [if_pos rfl]
      exact World.cell?_setCell_same' _ _ _ (by rw [h.cell j hj]; rfl)
    · rw [if_neg e]
      exact (World.cell?_setCell_other _ _ _ _ (by intro c; injection c with c1 c2; exact e c2.symm)).trans (h.cell j hj)
  · show (w.setCell ⟨B, i, none⟩ (.int .u8 (y : Nat))).frozen? ⟨B, j, none⟩ = _
    rw [World.frozen?_setCell]
    exact h.fr j hj
theorem Tb.conv {B k cap : Nat} {S : List Nat} {T : List Int} {w : World} (hS : ∀ x ∈ S, x < 256) (h : Tb B S T k w) : (convert 33 9 (.slice (some ⟨B, 0, none⟩) (2 * S.length) cap)).run Tryd.prog w = .ok (.string (mkS (ta S T k))) w := by
  have e := run_convert_bytes_back w 33 9 5 ⟨B, 0, none⟩ cap ((ta S T k).map UInt8.ofNat) und33 Tryd.underlying5 Tryd.underlying9 (fun j hj => by
    have hj' : j < 2 * S.length := by simpa [ta_len] using hj
    rw [Addr.add_mid, Nat.zero_add, h.cell j hj']
    have hlt := tby_lt hS T k j
    have e2 : (ta S T k)[j]'(by rw [ta_len]; exact hj') = tby S T k j := by simp [ta]
    simp [e2]
    omega)
  rw [List.length_map, ta_len] at e
  exact e
set_option maxRecDepth 100000 in
set_option maxHeartbeats 4000000 in
theorem short_any (s : ByteArray) (hs : s.size ≤ 64) (v1 : Value) (T : List Int) (w : World) (hT : Is w.heap.size w v1 T) (hG : Gl w) :
    Calls Tryd.prog 5 #[.string s, v1] w fun e w' => e = .returned (.bool true) ∧ Below w.heap.size w w' := by
  have ca := hid_of (writeAll_any s hs w hG)
  have HG := hid_of hG
  have h2 := hG.sz
  have hS := bl_lt s
  have hSl := bl_len s
  have hwl : (mkS (wa (bl s))).size = 2 * s.size := by rw [mkS_size, wa_len, hSl]
  have hbw : bl (mkS (wa (bl s))) = wa (bl s) := bl_mkS (wa_lt hS)
  obtain ⟨t1, ao, cap, rfl, t4, t6⟩ := hT
  have T6 := hid_of t6
  clear t6 hG
  go_enter Tryd.func5, Tryd.ntmps5
  go_wp2_with fail
  refine ca.out.mono ?_
  rintro e w1 ⟨rfl, hb1⟩
  have B1 := hid_of hb1
  clear hb1
  go_wp2_with fail
  refine (begun_any _ (HG.out.below h2 B1.out)).mono ?_
  rintro e w2 ⟨rfl, hb2⟩
  have B2 := hid_of (B1.out.trans (hb2.mono B1.out.size))
  clear hb2
  obtain ⟨cap2, W, hcv, hcs, hfr, hB, hsz⟩ := conv_str2 (mkS (wa (bl s))) w2
  rw [hwl] at hcv hcs hfr
  rw [hbw] at hcs
  have HTb : Hid (Tb w2.heap.size (bl s) T 0 W) := by
    refine ⟨fun i hi => ?_, fun i hi => ?_⟩
    · rw [hcs i (by rw [hSl] at hi; exact hi), tby_zero (T := T) hi]
    · exact hfr i (by rw [hSl] at hi; exact hi)
  have HB0 := hid_of hB
  have HS := hid_of hS
  have HSl := hid_of hSl
  have HE := hid_of hwl
  have HZ := hid_of hsz
  clear hcs hB hbw hS hSl hwl hfr hsz
  generalize hbe : mkS (wa (bl s)) = Q at *
  have dz : (0 : Int) ≤ s.size := by omega
  go_wp2_with fail
  go_loopw [8, 9] (fun n i w' => ∃ k : Nat, k ≤ T.length ∧ k ≤ s.size ∧ i = .int .i64 k ∧ n = .int .i64 (tc T k : Nat) ∧ Hid (Tb w2.heap.size (bl s) T k w') ∧ Hid (Below w2.heap.size w2 w')) (fun _ i _ => s.size - (intOf i).toNat)
  case atStart => exact ⟨0, by omega, by omega, rfl, rfl, HTb, HB0⟩
  case round =>
    obtain ⟨k, hk1, hk2, rfl, rfl, HT, HB⟩ := hrel
    rename_i wr
    have htc := tc_le T k
    by_cases hlt : k < T.length
    · have d1 : decide ((k : Int) < (T.length : Int)) = true := decide_eq_true (by omega)
      by_cases hls : k < s.size
      · have d2 : decide ((k : Int) < (s.size : Int)) = true := decide_eq_true (by omega)
        rcases T6.out with h | ⟨b, off, rfl, hb, hc⟩
        · rw [h] at hlt; simp at hlt
        have hx := (HB.out.cell (p := ⟨b, off + k, none⟩) (by show b < w2.heap.size; have := B2.out.size; omega)).trans ((B2.out.cell (p := ⟨b, off + k, none⟩) hb).trans (hc k hlt))
        have HTJ := hid_of (show tj T k = T[k]?.getD 0 from rfl)
        rw [← HTJ.out] at hx
        have HTC := hid_of (show tc T (k + 1) = tc T k + if inr (tj T k) = true then 1 else 0 from rfl)
        have HSk := hid_of (tby_skip (S := bl s) (T := T) (k := k))
        have HHi := hid_of (tby_hi (S := bl s) (T := T) (k := k))
        have HLo := hid_of (tby_lo (S := bl s) (T := T) (k := k))
        have hin : inr (tj T k) = (decide (0 ≤ tj T k) && decide (tj T k ≤ 12)) := rfl
        generalize tj T k = x at *
        clear hc HTJ
        by_cases h0 : 0 ≤ x ∧ x ≤ 12
        · have hir := hid_of (show inr x = true by rw [hin]; simp [h0.1, h0.2])
          rw [hir.out, if_pos rfl] at HTC
          have e1 : decide (x < 0) = false := decide_eq_false (by omega)
          have e2 : decide (x > 12) = false := decide_eq_false (by omega)
          obtain ⟨t, rfl⟩ := Int.eq_ofNat_of_zero_le h0.1
          have ht : t ≤ 12 := by omega
          clear hin h0
          by_cases h8 : 8 ≤ t
          · have e3 : decide ((t : Int) ≥ 8) = true := decide_eq_true (by omega)
            have hi : 2 * k < 2 * (bl s).length := by rw [HSl.out]; omega
            have hcl := HT.out.cell (2 * k) hi
            have hfz := HT.out.fr (2 * k) hi
            have hyl := tby_lt HS.out T k (2 * k)
            have HN := hid_of (HHi.out hir.out (by omega))
            have e4 : ((t : Int) - 8).toNat = t - 8 := by omega
            rw [e4] at HN
            have hxr := xor8 (tby (bl s) T k (2 * k)) (t - 8) hyl (by omega)
            generalize tby (bl s) T k (2 * k) = y at *
            have HP := hid_of (HT.out.put hi HN.out)
            have HBn := hid_of ((HB.out.setCell (p := ⟨w2.heap.size, 2 * k, none⟩) (Nat.le_refl _) (.int .u8 ((y ^^^ 2 ^ (t - 8) : Nat) : Int))).drew)
            have l1 : 2 * (k : Int) < 2 * (s.size : Int) := by omega
            have l2 : 2 * k < 2 * s.size := by omega
            clear HHi HLo HSk HT HN e4
            go_wp2_with fail
            go_region
            go_wp2_with fail
            go_roundw
            case rel => exact ⟨k + 1, by omega, by omega, by go_num, by rw [HTC.out]; go_num, HP, HBn⟩
            case measure => simp [intOf]; omega
          · have e3 : decide ((t : Int) ≥ 8) = false := decide_eq_false (by omega)
            have hi : 2 * k + 1 < 2 * (bl s).length := by rw [HSl.out]; omega
            have hcl := HT.out.cell (2 * k + 1) hi
            have hfz := HT.out.fr (2 * k + 1) hi
            have hyl := tby_lt HS.out T k (2 * k + 1)
            have HN := hid_of (HLo.out hir.out (by omega))
            rw [Int.toNat_natCast] at HN
            have hxr := xor8 (tby (bl s) T k (2 * k + 1)) t hyl (by omega)
            generalize tby (bl s) T k (2 * k + 1) = y at *
            have HP := hid_of (HT.out.put hi HN.out)
            have HBn := hid_of ((HB.out.setCell (p := ⟨w2.heap.size, 2 * k + 1, none⟩) (Nat.le_refl _) (.int .u8 ((y ^^^ 2 ^ t : Nat) : Int))).drew)
            have l1 : 2 * (k : Int) + 1 < 2 * (s.size : Int) := by omega
            have l2 : 2 * k + 1 < 2 * s.size := by omega
            clear HHi HLo HSk HT HN
            go_wp2_with fail
            go_region
            go_wp2_with fail
            go_roundw
            case rel => exact ⟨k + 1, by omega, by omega, by go_num, by rw [HTC.out]; go_num, HP, HBn⟩
            case measure => simp [intOf]; omega
        · have hir := hid_of (show inr x = false by rw [hin]; simp; omega)
          have HN := hid_of (HSk.out hir.out)
          rw [hir.out, if_neg (by decide)] at HTC
          have HP : Hid (Tb w2.heap.size (bl s) T (k + 1) wr) := ⟨fun i hi => by rw [HN.out]; exact HT.out.cell i hi, HT.out.fr⟩
          clear hin HHi HLo HSk HN
          by_cases h1 : x < 0
          · have e1 : decide (x < 0) = true := decide_eq_true h1
            go_wp2_with fail
            go_roundw
            case rel => exact ⟨k + 1, by omega, by omega, by go_num, by rw [HTC.out]; rfl, HP, HB⟩
            case measure => simp [intOf]; omega
          · have e1 : decide (x < 0) = false := decide_eq_false h1
            have e2 : decide (x > 12) = true := decide_eq_true (by omega)
            go_wp2_with fail
            go_roundw
            case rel => exact ⟨k + 1, by omega, by omega, by go_num, by rw [HTC.out]; rfl, HP, HB⟩
            case measure => simp [intOf]; omega
      · have d2 : decide ((k : Int) < (s.size : Int)) = false := decide_eq_false (by omega)
        obtain rfl : k = s.size := by omega
        have hco := HT.out.conv (cap := cap2) HS.out
        rw [HSl.out] at hco
        have HM := hid_of (rmd_ta HS.out T s.size (bl s).length (Nat.le_refl _))
        have HR := hid_of (rtx_ta HS.out T s.size)
        have hsz3 : (mkS (ta (bl s) T (s.size))).size = 2 * s.size := by rw [mkS_size, ta_len, HSl.out]
        have hb3 : bl (mkS (ta (bl s) T (s.size))) = ta (bl s) T (s.size) := bl_mkS (by intro x hx; obtain ⟨i, _, rfl⟩ := List.mem_map.1 hx; exact tby_lt HS.out T _ i)
        rw [HSl.out] at HM HR
        rw [show min s.size (s.size) = s.size by omega] at HM
        have hgd : ∀ j, j < s.size → Wd.rn (rws (ta (bl s) T (s.size)) j) ≠ 0 := by
          intro j hj
          rw [rws_ta (by rw [HSl.out]; exact hj), (tw_read HS.out T _ j).2]
          split <;> decide
        have cd := hid_of (fun W' (h : Gl W') => readAll_any (mkS (ta (bl s) T (s.size))) s.size hsz3 hs W' h)
        rw [hb3, HR.out, HM.out, mkS_bl] at cd
        have HGd := hid_of hgd
        have BB := hid_of (B2.out.trans (HB.out.mono B2.out.size))
        have hqs : (Q.size : Int) = 2 * (s.size : Int) := by rw [HE.out]; push_cast; rfl
        have hqe : (s.toList == s.toList) = true := by simp
        clear hgd hb3 hsz3 HM HR HT
        go_wp2_with fail
        refine (cd.out _ (HG.out.below h2 BB.out)).mono ?_
        rintro e w5 ⟨hb5, ⟨⟨j, hj, h0⟩, rfl⟩ | ⟨_, rfl⟩⟩
        · exact absurd h0 (HGd.out j hj)
        · have B5 := hid_of (BB.out.trans (hb5.mono BB.out.size))
          clear hb5
          go_wp2_with fail
          go_ret
          exact ⟨ret_true (by simp), B5.out⟩
    · have d1 : decide ((k : Int) < (T.length : Int)) = false := decide_eq_false (by omega)
      obtain rfl : k = T.length := by omega
      have hco := HT.out.conv (cap := cap2) HS.out
      rw [HSl.out] at hco
      have HM := hid_of (rmd_ta HS.out T T.length (bl s).length (Nat.le_refl _))
      have HR := hid_of (rtx_ta HS.out T T.length)
      have hsz3 : (mkS (ta (bl s) T (T.length))).size = 2 * s.size := by rw [mkS_size, ta_len, HSl.out]
      have hb3 : bl (mkS (ta (bl s) T (T.length))) = ta (bl s) T (T.length) := bl_mkS (by intro x hx; obtain ⟨i, _, rfl⟩ := List.mem_map.1 hx; exact tby_lt HS.out T _ i)
      rw [HSl.out] at HM HR
      rw [show min s.size (T.length) = T.length by omega] at HM
      have hgd : ∀ j, j < s.size → Wd.rn (rws (ta (bl s) T (T.length)) j) ≠ 0 := by
        intro j hj
        rw [rws_ta (by rw [HSl.out]; exact hj), (tw_read HS.out T _ j).2]
        split <;> decide
      have cd := hid_of (fun W' (h : Gl W') => readAll_any (mkS (ta (bl s) T (T.length))) s.size hsz3 hs W' h)
      rw [hb3, HR.out, HM.out, mkS_bl] at cd
      have HGd := hid_of hgd
      have BB := hid_of (B2.out.trans (HB.out.mono B2.out.size))
      have hqs : (Q.size : Int) = 2 * (s.size : Int) := by rw [HE.out]; push_cast; rfl
      have hqe : (s.toList == s.toList) = true := by simp
      clear hgd hb3 hsz3 HM HR HT
      go_wp2_with fail
      refine (cd.out _ (HG.out.below h2 BB.out)).mono ?_
      rintro e w5 ⟨hb5, ⟨⟨j, hj, h0⟩, rfl⟩ | ⟨_, rfl⟩⟩
      · exact absurd h0 (HGd.out j hj)
      · have B5 := hid_of (BB.out.trans (hb5.mono BB.out.size))
        clear hb5
        go_wp2_with fail
        go_ret
        exact ⟨ret_true (by simp), B5.out⟩
theorem walk (s0 : ByteArray) (v1 : Value) (A1 : List Int) (W : World) (hs : s0.size ≤ maxLen) (w1 : Is W.heap.size W v1 A1) (hG : Gl W) :
    Calls Tryd.prog 5 #[.string s0, v1] W fun e w' => e = .returned (.bool true) ∧ Below W.heap.size W w' := by
  by_cases h : s0.size ≤ 64
  · exact short_any s0 h v1 A1 W w1 hG
  · exact long_any s0 (by omega) v1 W hG

set_option maxRecDepth 100000 in
theorem lifted (os : Os) (started : os.Started) (H : Type) (enc : TypeId × Value → H) :
    ReturnsInHanded {} Tryd.checked os 5 .any (fun w args => (Rows.wordAllSpec.pre enc Tryd.prog Tryd.f5 [] false w args ∧ laidMetH Tryd.prog laid2 w) ∧ sizedMet enc Tryd.prog Tryd.f5 (OpenSpec.ofChange Rows.wordAllSpec) false w args)
      (Rows.wordAllSpec.post enc Tryd.prog Tryd.f5 false true false false) := by
  refine returnsInHanded_of_change_and (C := Tryd.checked) (X := fun w _ => laidMetH Tryd.prog laid2 w) (fun _ _ _ hh h => h.of_heap hh) own started (by kernel_rfl) Tryd.func5
    (ChangeSpec.witness_shaped (enc := enc) (C := Tryd.checked) (os := os) (X := fun w _ => laidMetH Tryd.prog laid2 w) false (World.doorLaid Tryd.prog 400 os) #[.string ⟨#[]⟩, .slice none 0 0] 8 rfl (World.shaped_of_RefB (by kernel_rfl) (by kernel_rfl)) (by kernel_rfl) (by kernel_rfl) (by kernel_rfl) (door_met os _)) ?_
  intro W base args ds gs before hval0 hW _ hsz0 hL _
  have hsz : (DataW.weightsEach Tryd.prog (Tryd.f5.params.toList ++ Rows.wordAllSpec.plain.varTypes Tryd.prog) (ds ++ gs)).all (· ≤ reachBytes) = true := hsz0
  clear hsz0
  have hval : ∀ (j : Nat) t v, Tryd.f5.params[j]? = some t → args[j]? = some v → Value.okWide Tryd.prog W .any base t v := hval0
  have hW' := hW
  obtain ⟨p, q, hA0, hV, rfl, hfz, hnd⟩ := hW
  have hA : DataW.TrodAll enc Tryd.prog W 0 (fun _ => true) true Tryd.f5.params.toList args.toList ds p := hA0
  rw [Tryd.params5] at hA hval hsz
  obtain ⟨v0, vs0, d0, ds0, p0, q0, hargs, rfl, rfl, h0, r0⟩ := trodAll_cons hA
  obtain ⟨v1, vs1, d1, ds1, p1, q1, rfl, rfl, rfl, h1, r1⟩ := trodAll_cons r0
  obtain ⟨rfl, rfl, rfl⟩ := trodAll_nil r1
  obtain rfl : args = #[v0, v1] := by cases args; simp_all
  obtain ⟨rfl, rfl⟩ := trodVars_none hV
  obtain ⟨x0, rfl, rfl, rfl, w0⟩ := open_string Tryd.underlying9 (hval 0 9 v0 rfl rfl) h0
  obtain ⟨a1, len1, cap1, rfl⟩ := okWide_slice Tryd.underlying29 (hval 1 29 v1 rfl rfl)
  have k1 := h1
  have lt1 : ∀ x ∈ p1, x.block < W.heap.size := by obtain ⟨m, hm⟩ := k1; exact DataW.trod_lt m _ _ _ hm
  obtain ⟨A1, w1⟩ : ∃ A, Is W.heap.size W (.slice a1 len1 cap1) A := by
    obtain ⟨fuel, hf⟩ := h1
    exact arg_is hf hsz (j := 1) rfl rfl
  clear hA0 hval0
  
  refine (walk x0 _ A1 W w0 w1 (of_laid hL)).mono fun e W' ⟨he, bel⟩ => ?_
  subst he
  exact ⟨_, rfl, _, _, _, [], _, [], hW', trodAll_mk1 (shut_bool Tryd.underlying4 _), (trodAll_cons_mk (shut_string Tryd.underlying9 w0) (trodAll_cons_mk (Below.trod laidOut (by kernel_rfl) (of_decide_eq_true (by kernel_rfl)) k1 bel lt1) trodAll_mk0)), rfl, bel.frame _, fun h => by cases h⟩
theorem over : Rows.WordAllSaid :=
  OpenClaim.holds_of_wide 5 Tryd.f5 rfl rfl rfl rfl rfl rfl rfl ⟨rfl, rfl, rfl, rfl, rfl⟩ rfl rfl rfl rfl rfl (by kernel_rfl) Tryd.func5 (by kernel_rfl)
    (of_decide_eq_true (by kernel_rfl)) (by unfold Func.isWrapper; first | (rw [if_pos (by decide +kernel)]; kernel_rfl) | (rw [if_neg (by decide +kernel)]; exact ⟨rfl, rfl⟩))
    (fun os started H enc _ => lifted os started H enc)
/-- THE TIED CARD -/
theorem proved : Rows.WordAllCardSaid :=
  Claim7.holds_tied_plain_at .later [] [.data, .data] true (true, "87ebca35141552c93e93adfae79a6d263e31723d07d2413a3a2d239b54e77150") false
    over (fun _ h => by cases h) (by kernel_rfl) (fun _ h => by cases h) wordAll_row_tie rfl ⟨rfl, rfl⟩ (by kernel_rfl) rfl
    (fun f fn hf hfn => by
      obtain rfl : f = 5 := Option.some.inj ((show Tryd.prog.funcNamed "supercargo/supercargolaw.WordAll" = some 5 by kernel_rfl).symm.trans hf) |>.symm
      obtain rfl : fn = Tryd.f5 := (Option.some.inj (Tryd.func5.symm.trans hfn)).symm
      exact ⟨by kernel_rfl, fun j t ht => by
        rw [Tryd.params5] at ht
        have hm : t ∈ [9, 29] := by simpa using Array.mem_of_getElem? ht
        have hall : ([9, 29].all fun u => !Tryd.prog.wantsStandIn u) = true := by kernel_rfl
        exact (show Tryd.prog.wantsStandIn t = false by simpa using List.all_eq_true.1 hall t hm)⟩)
    (by kernel_rfl)
#print axioms proved
end Go.Proofs.YtiiickinlklelabDoor.wordAll
