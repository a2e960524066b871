/- What matrix.Cauchy answers, and the statements' own comparison of matrices. -/
import Derived.Test.YtjpibfnkchbglabUnit
namespace Go.Proofs.Ytjpibfnkchbglab
open Go.ChangeShapes Go.WideShapes Go.ChangeAt Go.RowKit Go.Shelf
/-- Cauchy's rows -/
def cf (rows i k : Nat) : Nat := Gf.inv (i ^^^ (rows + k))
theorem xor_ne {a b : Nat} (h : a ≠ b) : a ^^^ b ≠ 0 := by
  intro e
  apply h
  have : (a ^^^ b) ^^^ b = a := by rw [Nat.xor_assoc, Nat.xor_self, Nat.xor_zero]
  rw [e, Nat.zero_xor] at this
  exact this.symm
set_option maxRecDepth 100000 in
set_option maxHeartbeats 1000000 in
theorem cauchy1_any (bx rows i k : Nat) (W : World) (hc : W.cell? ⟨bx, 0, none⟩ = some (.int .i64 (rows : Nat))) (hr : rows ≤ 16) (hi : i < rows) (hk : k < 16) :
    Calls Try.prog 29 #[.int .i64 (i : Nat), .int .i64 (k : Nat), .pointer (some ⟨bx, 0, none⟩)] W fun e w' => e = .returned (.int .u8 (cf rows i k : Nat)) ∧ Below W.heap.size W w' := by
  have s1 : IntKind.i64.wrap ((rows : Int) + (k : Int)) = ((rows + k : Nat) : Int) := by rw [IntKind.wrap_i64]; omega
  have s2 : bits .xor .i64 (i : Int) ((rows + k : Nat) : Int) = ((i ^^^ (rows + k) : Nat) : Int) := i64_xor i (rows + k) (by omega) (by omega)
  have hx := xor_ne (a := i) (b := rows + k) (by omega)
  have hl : i ^^^ (rows + k) < 32 := Nat.xor_lt_two_pow (n := 5) (by omega) (by omega)
  have s3 : IntKind.u8.wrap ((i ^^^ (rows + k) : Nat) : Int) = ((i ^^^ (rows + k) : Nat) : Int) := by rw [IntKind.wrap_u8]; omega
  have HE : Hid (cf rows i k = Gf.inv (i ^^^ (rows + k))) := rfl
  obtain ⟨s, hs⟩ : ∃ s, rows + k = s := ⟨_, rfl⟩
  rw [hs] at s1 s2 s3 hx hl HE
  obtain ⟨x, hxe⟩ : ∃ x, i ^^^ s = x := ⟨_, rfl⟩
  rw [hxe] at s2 s3 hx hl HE
  clear hs hxe
  go_enter Try.func29, Try.ntmps29
  go_wp2_with fail
  refine (inverse_any _ _ (by omega) (by omega)).mono ?_
  rintro e w2 ⟨rfl, hB⟩
  rw [Int.toNat_natCast]
  go_wp2_with fail
  go_ret
  exact ⟨by rw [HE.out]; rfl, hB⟩
theorem cf41 (args : Array Value) (W : World) : (callFunc 29 args).run Try.prog W = .ok (.enter 29 args) W := by rfl
theorem cauchy_clo (bx rows cols : Nat) (w : World) (hc : w.cell? ⟨bx, 0, none⟩ = some (.int .i64 (rows : Nat))) (hb : bx < w.heap.size) (hr : rows ≤ 16) (hk : cols ≤ 16) : Clo 29 #[.pointer (some ⟨bx, 0, none⟩)] w (cf rows) rows cols := by
  intro W hW i k hi hkk
  exact ⟨Gf.inv_lt _, cauchy1_any bx rows i k W ((hW.cell (p := ⟨bx, 0, none⟩) hb).trans hc) hr hi (by omega)⟩
set_option maxRecDepth 100000 in
set_option maxHeartbeats 1000000 in
theorem cauchy_ok (rows cols : Nat) (w : World) (h1 : 1 ≤ rows) (h2 : rows ≤ 16) (h3 : 1 ≤ cols) (h4 : cols ≤ 16) :
    Calls Try.prog 9 #[.int .i64 (rows : Nat), .int .i64 (cols : Nat)] w fun e w' => ∃ v, e = .returned (.tuple #[v, .int .i64 0]) ∧ Mx w'.heap.size w' v (tab rows cols (cf rows)) ∧ Below w.heap.size w w' := by
  have hmf : ∀ (fn : Fn) (first cap : Array Value) (w : World), (Instr.makeFunc fn first cap).run Try.prog w = .ok (.func fn first cap) w := fun _ _ _ _ => rfl
  have hB := (Below.refl w.heap.size w).alloc (Nat.le_refl _) (.cells #[.int .i64 (rows : Nat)] 3)
  have hc : (w.alloc (.cells #[.int .i64 (rows : Nat)] 3)).cell? ⟨w.heap.size, 0, none⟩ = some (.int .i64 (rows : Nat)) := by simp [go_sem]
  have HCl := hid_of (cauchy_clo w.heap.size rows cols _ hc (by simp) h2 h4)
  have BB := hid_of hB
  clear hB
  go_enter Try.func9, Try.ntmps9
  go_wp2_with fail
  refine (size_yes rows _ h1 h2).mono ?_
  rintro e w1 ⟨rfl, rfl⟩
  go_wp2_with fail
  refine (size_yes cols _ h3 h4).mono ?_
  rintro e w1 ⟨rfl, rfl⟩
  go_wp2_with fail
  refine (fill_mx rows cols 29 _ (cf rows) _ (by omega) (by omega) cf41 HCl.out).mono ?_
  rintro e w2 ⟨v, rfl, hF, hB, _⟩
  have HF := hid_of hF
  have B2 := hid_of (BB.out.trans (hB.mono BB.out.size))
  clear hF hB
  go_wp2_with fail
  go_ret2
  exact ⟨_, rfl, HF.out, B2.out⟩
set_option maxRecDepth 100000 in
set_option maxHeartbeats 1000000 in
theorem cauchy_no (rows cols : Int) (w : World) (h : (rows < 1 ∨ 16 < rows) ∨ (cols < 1 ∨ 16 < cols)) :
    Calls Try.prog 9 #[.int .i64 rows, .int .i64 cols] w fun e w' => e = .returned (.tuple #[.slice none 0 0, .int .i64 3]) ∧ Below w.heap.size w w' := by
  have BB := hid_of ((Below.refl w.heap.size w).alloc (Nat.le_refl _) (.cells #[.int .i64 rows] 3))
  by_cases c : rows < 1 ∨ 16 < rows
  · go_enter Try.func9, Try.ntmps9
    go_wp2_with fail
    refine (size_no rows _ c).mono ?_
    rintro e w1 ⟨rfl, rfl⟩
    go_wp2_with fail
    go_ret2
    exact ⟨rfl, BB.out⟩
  · obtain ⟨n, rfl⟩ := Int.eq_ofNat_of_zero_le (show 0 ≤ rows by omega)
    have d : cols < 1 ∨ 16 < cols := by omega
    have c1 : 1 ≤ n := by omega
    have c2 : n ≤ 16 := by omega
    go_enter Try.func9, Try.ntmps9
    go_wp2_with fail
    refine (size_yes n _ c1 c2).mono ?_
    rintro e w1 ⟨rfl, rfl⟩
    go_wp2_with fail
    refine (size_no cols _ d).mono ?_
    rintro e w1 ⟨rfl, rfl⟩
    go_wp2_with fail
    go_ret2
    exact ⟨rfl, BB.out⟩
theorem Mx.drewN {n : Nat} {w : World} {v : Value} {A : List (List Nat)} (h : Mx n w v A) (m : Nat) : Mx n (w.drewN m) v A := h
theorem same_take {A B : List (List Nat)} {k : Nat} (ha : k < A.length) (hb : k < B.length) (ht : A.take k = B.take k) : A.take (k + 1) = B.take (k + 1) ↔ A[k]?.getD [] = B[k]?.getD [] := by
  rw [List.take_succ_eq_append_getElem ha, List.take_succ_eq_append_getElem hb, ht, List.getElem?_eq_getElem ha, List.getElem?_eq_getElem hb, List.append_cancel_left_eq]
  simp
set_option maxRecDepth 100000 in
set_option maxHeartbeats 2000000 in
theorem sameM_any (av bv : Value) (A B : List (List Nat)) (n : Nat) (w : World) (hA : Mx n w av A) (hB : Mx n w bv B) (hn : n ≤ w.heap.size) :
    Calls Try.prog 15 #[av, bv] w fun e w' => e = .returned (.bool (decide (A = B))) ∧ Below w.heap.size w w' := by
  have HA := hid_of hA
  have HB := hid_of hB
  have HN := hid_of hn
  obtain ⟨a2, ao, cap, rfl, _⟩ := hA
  obtain ⟨b2, bo, cbp, rfl, _⟩ := hB
  by_cases hl : A.length = B.length
  · have hne : ((A.length : Int) != (B.length : Int)) = false := by rw [hl]; simp
    have HL := hid_of hl
    clear hl hn
    go_enter Try.func15, Try.ntmps15
    go_wp2_with fail
    go_loopw [5] (fun i w' => ∃ k : Nat, k ≤ A.length ∧ i = .int .i64 k ∧ Hid (A.take k = B.take k) ∧ Hid (Below w.heap.size w w')) (fun i _ => A.length - (intOf i).toNat)
    case atStart => exact ⟨0, by omega, rfl, rfl, Below.refl _ _⟩
    case round =>
      obtain ⟨k, hk, rfl, HT, HW⟩ := hrel
      by_cases hlt : k < A.length
      · have hlt' : k < B.length := by have := HL.out; omega
        have hA2 := (HA.out.mono HN.out).below HW.out
        have hB2 := (HB.out.mono HN.out).below HW.out
        obtain ⟨b1, o1, r1, k1, rfl, hx, hx2⟩ := hA2.at hlt
        obtain ⟨b3, o3, r3, k3, rfl, hy, hy2⟩ := hB2.at hlt'
        have ET := hid_of (same_take hlt hlt' HT.out)
        have X2 := hid_of hx2
        have Y2 := hid_of hy2
        obtain ⟨l1, hl1⟩ : ∃ n, (A[k]?.getD []).length = n := ⟨_, rfl⟩
        obtain ⟨l3, hl3⟩ : ∃ n, (B[k]?.getD []).length = n := ⟨_, rfl⟩
        rw [hl1] at hx X2
        rw [hl3] at hy Y2
        clear hx2 hy2 hA2 hB2 hl1 hl3
        have hmx : Try.prog.follows Departure.mixedOrders = true := by kernel_rfl
        have HCX : Hid (∀ w', Below wr.heap.size wr w' → w'.cell? ⟨b1, o1 + k, none⟩ = some (.slice r1 l1 k1)) := hid_of fun w' hw' => (hw'.cell (p := ⟨b1, o1 + k, none⟩) (cell_lt hx)).trans hx
        have HCY : Hid (∀ w', Below wr.heap.size wr w' → w'.cell? ⟨b3, o3 + k, none⟩ = some (.slice r3 l3 k3)) := hid_of fun w' hw' => (hw'.cell (p := ⟨b3, o3 + k, none⟩) (cell_lt hy)).trans hy
        have HN2 : Hid (w.heap.size ≤ wr.heap.size) := HW.out.size
        by_cases e : A[k]?.getD [] = B[k]?.getD []
        · have hd : Hid (decide (A[k]?.getD [] = B[k]?.getD []) = true) := hid_of (decide_eq_true e)
          have HE := hid_of e
          clear e
          go_wp2_with fail
          refine wp_region_quiet (C := fun w' => Below wr.heap.size wr w') hmx (by kernel_rfl) ((Below.refl _ _).drew) ?_
          repeat
            refine wpQuiet_step (fun K hK => ?_)
            go_simp
            first
              | (refine ⟨_, fun w' hw' => rfl, hK _ ?_⟩; clear hK K)
              | (refine ⟨.slice r1 l1 k1, fun w' hw' => ?_, hK _ ?_⟩; (rw [HCX.out w' hw']; exact ⟨rfl, rfl⟩); clear hK K)
              | (refine ⟨.slice r3 l3 k3, fun w' hw' => ?_, hK _ ?_⟩; (rw [HCY.out w' hw']; exact ⟨rfl, rfl⟩); clear hK K)
              | (refine ⟨.bool true, fun w' hw' => ?_, hK _ ?_⟩
                 · refine (same_any _ _ _ _ _ _ ((X2.out.mono HN2.out).below hw') ((Y2.out.mono HN2.out).below hw')).mono ?_
                   rintro e w5 ⟨rfl, hB5⟩
                   rw [hd.out]
                   exact ⟨rfl, hw'.trans (hB5.mono hw'.size)⟩
                 clear hK K)
          refine wpQuiet_nil ?_
          intro w' hw'
          go_wp2_with fail
          go_roundw
          case rel => exact ⟨k + 1, by omega, by go_num, ET.out.2 HE.out, HW.out.trans (hw'.mono HW.out.size)⟩
          case measure => simp [intOf]; omega
        · have hd : Hid (decide (A[k]?.getD [] = B[k]?.getD []) = false) := hid_of (decide_eq_false e)
          have HE := hid_of e
          clear e
          go_wp2_with fail
          refine wp_region_quiet (C := fun w' => Below wr.heap.size wr w') hmx (by kernel_rfl) ((Below.refl _ _).drew) ?_
          repeat
            refine wpQuiet_step (fun K hK => ?_)
            go_simp
            first
              | (refine ⟨_, fun w' hw' => rfl, hK _ ?_⟩; clear hK K)
              | (refine ⟨.slice r1 l1 k1, fun w' hw' => ?_, hK _ ?_⟩; (rw [HCX.out w' hw']; exact ⟨rfl, rfl⟩); clear hK K)
              | (refine ⟨.slice r3 l3 k3, fun w' hw' => ?_, hK _ ?_⟩; (rw [HCY.out w' hw']; exact ⟨rfl, rfl⟩); clear hK K)
              | (refine ⟨.bool false, fun w' hw' => ?_, hK _ ?_⟩
                 · refine (same_any _ _ _ _ _ _ ((X2.out.mono HN2.out).below hw') ((Y2.out.mono HN2.out).below hw')).mono ?_
                   rintro e w5 ⟨rfl, hB5⟩
                   rw [hd.out]
                   exact ⟨rfl, hw'.trans (hB5.mono hw'.size)⟩
                 clear hK K)
          refine wpQuiet_nil ?_
          intro w' hw'
          go_wp2_with fail
          go_ret
          refine ⟨ret_bool (decide_eq_false (fun c => HE.out (ET.out.1 (by rw [c])))).symm, HW.out.trans (hw'.mono HW.out.size)⟩
      · have hAB : A = B := by
          have := HT.out
          rw [List.take_of_length_le (by omega), List.take_of_length_le (by have := HL.out; omega)] at this
          exact this
        have HAB := hid_of hAB
        clear hAB
        go_wp2_with fail
        go_ret
        exact ⟨ret_bool (decide_eq_true HAB.out).symm, HW.out⟩
  · have hne : ((A.length : Int) != (B.length : Int)) = true := by rw [bne_iff_ne]; omega
    have HL : Hid (decide (A = B) = false) := hid_of (decide_eq_false fun e => hl (by rw [e]))
    clear hl
    go_enter Try.func15, Try.ntmps15
    go_wp2_with fail
    go_ret
    exact ⟨ret_bool HL.out.symm, Below.refl _ _⟩
end Go.Proofs.Ytjpibfnkchbglab
