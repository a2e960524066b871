/- What ReadAll of package word answers, for every text. -/
import Derived.Test.YtiiickinlklelaaDoorWa
namespace Go.Proofs.YtiiickinlklelaaDoor
open Go.ChangeShapes Go.WideShapes Go.ChangeAt Go.RowKit Go.Shelf
/-- word j of a text -/
def rws (L : List Nat) (j : Nat) : Nat := L[2 * j]?.getD 0 * 256 + L[2 * j + 1]?.getD 0
/-- the bytes of its first k words -/
def rtx (L : List Nat) (k : Nat) : List Nat := (List.range k).map fun j => Wd.rb (rws L j)
/-- how many bits of these were mended -/
def rmd (L : List Nat) : Nat → Int
  | 0 => 0
  | k + 1 => rmd L k + rm (rws L k)
theorem rtx_succ (L : List Nat) (k : Nat) : rtx L (k + 1) = rtx L k ++ [Wd.rb (rws L k)] := by simp [rtx, List.range_succ]
theorem rtx_len (L : List Nat) (k : Nat) : (rtx L k).length = k := by simp [rtx]
theorem or_add (x y : Nat) (hx : x < 256) (hy : y < 256) : bits .or .u16 ((x : Int) * 256) (y : Int) = ((x * 256 + y : Nat) : Int) := by
  have e := u16_or_nat (x * 256) y (by omega) (by omega)
  have e2 : x * 256 ||| y = x * 256 + y := by
    rw [Nat.mul_comm, show (256 : Nat) = 2 ^ 8 from rfl]
    exact (Nat.two_pow_add_eq_or_of_lt (i := 8) hy x).symm
  rw [e2] at e
  rw [← e]
  simp
theorem bo_lt (w : Nat) : ∀ k, k ≤ 8 → Wd.bo w k < 256
  | 0, _ => by show 0 < 256; decide
  | k + 1, h => by
    have hp : (2 : Nat) ^ k ≤ 128 := Nat.le_trans (Nat.pow_le_pow_right (by decide) (show k ≤ 7 by omega)) (by decide)
    have hm : w / 2 ^ Wd.pl k % 2 ≤ 1 := by have := Nat.mod_lt (w / 2 ^ Wd.pl k) (show 0 < 2 by decide); omega
    exact Nat.or_lt_two_pow (n := 8) (bo_lt w k (by omega)) (Nat.lt_of_le_of_lt (Nat.mul_le_mul hm hp) (by decide))
theorem rb_lt (w : Nat) : Wd.rb w < 256 := by
  unfold Wd.rb Wd.rb1
  have h1 := bo_lt w 8 (by decide)
  have h2 := bo_lt (Nat.xor w (Nat.pow 2 (Wd.ft w))) 8 (by decide)
  cases Nat.ble 8192 w <;> cases Wd.od w <;> cases Nat.ble 13 (Wd.ft w) <;> cases Nat.beq (Wd.ft w) 0 <;> first | exact h1 | exact h2 | (show 0 < 256; decide)
theorem rn_le (w : Nat) : Wd.rn w ≤ 2 := by
  unfold Wd.rn Wd.rn1
  cases Nat.ble 8192 w <;> cases Wd.od w <;> cases Nat.ble 13 (Wd.ft w) <;> cases Nat.beq (Wd.ft w) 0 <;> decide
theorem rmd_bd (L : List Nat) : ∀ k, (∀ j, j < k → Wd.rn (rws L j) ≠ 0) → 0 ≤ rmd L k ∧ rmd L k ≤ k
  | 0, _ => by simp [rmd]
  | k + 1, h => by
    have := rmd_bd L k (fun j hj => h j (by omega))
    have h1 := h k (by omega)
    have h2 := rn_le (rws L k)
    simp only [rmd, rm]
    omega
set_option maxRecDepth 100000 in
set_option maxHeartbeats 4000000 in
theorem readAll_any (s : ByteArray) (n : Nat) (hs : s.size = 2 * n) (hn : n ≤ 64) (w : World) (hG : Gl w) :
    Calls Tryd.prog 6 #[.string s] w fun e w' => Below w.heap.size w w' ∧
      (((∃ j, j < n ∧ Wd.rn (rws (bl s) j) = 0) ∧ e = .returned (.tuple #[.string (mkS []), .int .i64 0, .int .i64 5])) ∨
       ((∀ j, j < n → Wd.rn (rws (bl s) j) ≠ 0) ∧ e = .returned (.tuple #[.string (mkS (rtx (bl s) n)), .int .i64 (rmd (bl s) n), .int .i64 0]))) := by
  have d1 : decide ((s.size : Int) > 128) = false := decide_eq_false (by omega)
  have d2 : ((s.size : Int) % 2 != 0) = false := by rw [bne_eq_false_iff_eq]; omega
  have hs1 : s.size ≤ 128 := by omega
  have HS := hid_of hs
  have HG := hid_of hG
  have h2 := hG.sz
  have hmx : Tryd.prog.follows Departure.mixedOrders = true := by kernel_rfl
  have Hmx := hid_of hmx
  obtain ⟨i0, hi, hz0, hz1, hz2⟩ := info_parts info5
  clear hs hG hmx
  go_enter Tryd.func6, Tryd.ntmps6
  go_wp2_with fail
  go_loopw [5, 6, 7] (fun v m i w' => ∃ k : Nat, k ≤ n ∧ i = .int .i64 (2 * k : Nat) ∧ Hid (∀ j, j < k → Wd.rn (rws (bl s) j) ≠ 0) ∧ m = .int .i64 (rmd (bl s) k) ∧ Hid (Ow w.heap.size w' v (rtx (bl s) k)) ∧ Hid (Below w.heap.size w w')) (fun _ _ i _ => s.size - (intOf i).toNat)
  case atStart => exact ⟨0, by omega, rfl, (fun j hj => by omega), rfl, ⟨World.ownsRow_nil _ _ _ _, by simp [rtx], by simp [rtx]⟩, Below.refl _ _⟩
  case round =>
    obtain ⟨k, hk, rfl, HA, rfl, HO, HB⟩ := hrel
    rename_i v wr
    obtain ⟨va, vc, hvs⟩ := HO.out.shape
    rw [rtx_len] at hvs
    subst hvs
    by_cases hlt : k < n
    · have hb1 : 2 * k < s.size := by have := HS.out; omega
      have hb2 : 2 * k + 1 < s.size := by have := HS.out; omega
      have e1 : ∀ W, (Instr.index 9 (.string s) (.int .i64 (2 * (k : Int)))).run Tryd.prog W = .ok (.int .u8 ((bl s)[2 * k]?.getD 0 : Nat)) W := fun W => by
        rw [run_index_string W 9 s .i64 _ Tryd.underlying9, dif_pos (by omega), ← bl_at s (2 * k) hb1]
        congr 4
      have e2 : ∀ W, (Instr.index 9 (.string s) (.int .i64 (2 * (k : Int) + 1))).run Tryd.prog W = .ok (.int .u8 ((bl s)[2 * k + 1]?.getD 0 : Nat)) W := fun W => by
        rw [run_index_string W 9 s .i64 _ Tryd.underlying9, dif_pos (by omega), ← bl_at s (2 * k + 1) hb2]
        congr 4
      have x1 : (bl s)[2 * k]?.getD 0 < 256 := by
        have hkl : 2 * k < (bl s).length := by rw [bl_len]; exact hb1
        rw [List.getElem?_eq_getElem hkl]; exact bl_lt s _ (List.getElem_mem hkl)
      have y1 : (bl s)[2 * k + 1]?.getD 0 < 256 := by
        have hkl : 2 * k + 1 < (bl s).length := by rw [bl_len]; exact hb2
        rw [List.getElem?_eq_getElem hkl]; exact bl_lt s _ (List.getElem_mem hkl)
      have HW := hid_of (show rws (bl s) k = (bl s)[2 * k]?.getD 0 * 256 + (bl s)[2 * k + 1]?.getD 0 from rfl)
      generalize (bl s)[2 * k]?.getD 0 = x at *
      generalize (bl s)[2 * k + 1]?.getD 0 = y at *
      have hor := or_add x y x1 y1
      have hwl : x * 256 + y < 65536 := by omega
      rw [← HW.out] at hor hwl
      have HX := hid_of (rtx_succ (bl s) k)
      have HM := hid_of (show rmd (bl s) (k + 1) = rmd (bl s) k + rm (rws (bl s) k) from rfl)
      have HMd := hid_of (rmd_bd (bl s) k HA.out)
      have hrd := hid_of (fun W (hb : Below w.heap.size w W) => read_any (rws (bl s) k) hwl W (HG.out.below h2 hb))
      have hrl := rb_lt (rws (bl s) k)
      have hrn := rn_le (rws (bl s) k)
      have HRm := hid_of (show rm (rws (bl s) k) = (Wd.rn (rws (bl s) k) : Int) - 1 from rfl)
      generalize hq : rws (bl s) k = q at *
      generalize Wd.rb q = r at *
      have p1 : IntKind.i64.wrap (2 * (k : Int) + 1) = 2 * (k : Int) + 1 := by rw [IntKind.wrap_i64]; omega
      have p2 : IntKind.u16.wrap (x : Int) = x := by rw [IntKind.wrap_u16]; omega
      have p3 : IntKind.u16.wrap ((x : Int) * 256) = (x : Int) * 256 := by rw [IntKind.wrap_u16]; omega
      have p4 : IntKind.u16.wrap (y : Int) = y := by rw [IntKind.wrap_u16]; omega
      have HN := hid_of hrn
      clear hrn
      go_wp2_with fail
      refine wp_region_quiet (C := fun w' => Below wr.heap.size wr w') Hmx.out (by kernel_rfl) ((Below.refl _ _).drew) ?_
      repeat
        refine wpQuiet_step (fun K hK => ?_)
        go_simp
        first
          | (refine ⟨_, fun w' hw' => rfl, hK _ ?_⟩; clear hK K)
          | (refine hK _ ?_; clear hK K)
          | (refine ⟨.tuple #[.int .u8 (r : Nat), .int .i64 (rm q)], fun w' hw' => ?_, hK _ ?_⟩
             · refine (hrd.out w' (HB.out.trans (hw'.mono HB.out.size))).mono ?_
               rintro e w5 ⟨rfl, hB5⟩
               exact ⟨rfl, hw'.trans (hB5.mono hw'.size)⟩
             clear hK K)
      refine wpQuiet_nil ?_
      intro w1 hw1
      have HO1 := hid_of (HO.out.below hw1 (Nat.le_refl _))
      have HB1 := hid_of (HB.out.trans (hw1.mono HB.out.size))
      have hsz1 := HB1.out.size
      clear hw1 hrd
      by_cases hz : Wd.rn q = 0
      · have hm : rm q = -1 := by rw [HRm.out, hz]; rfl
        have HZ := hid_of hz
        clear hz
        rw [hm]
        clear hm
        go_wp2_with fail
        go_ret3
        exact ⟨HB1.out, .inl ⟨⟨k, hlt, by rw [hq]; exact HZ.out⟩, rfl⟩⟩
      · have HZ := hid_of hz
        have hm0 : 0 ≤ rm q := by rw [HRm.out]; omega
        have hm1 : rm q ≤ 1 := by rw [HRm.out]; have := HN.out; omega
        have hd0 : decide (rm q < 0) = false := decide_eq_false (by omega)
        have b0 := HMd.out.1
        have b1 := HMd.out.2
        have HOA := hid_of (HO1.out.below ((Below.refl w1.heap.size w1).alloc (Nat.le_refl _) (.cells #[.int .u8 (r : Int)] 5)) (Nat.le_refl _))
        have HBA := hid_of (HB1.out.alloc hsz1 (.cells #[.int .u8 (r : Int)] 5))
        have HL := hid_of (rtx_len (bl s) k)
        clear hz
        go_wp2_with (at_builtin; refine wpList_append_own _ rfl _ _ 36 rfl w.heap.size 5 i0 (.int .u8 0) 1 1 und33 hi hz0 hz1 hz2 rfl (by decide) _ k (cellsB (rtx (bl s) k)) rfl (by have h := HOA.out.1; rw [HL.out] at h; exact h) ⟨w1.heap.size, 0, none⟩ 1 1 [.int .u8 (r : Int)] rfl rfl (fun j u hj => by exact news_one w1 _ j u hj) (by simp [Value.oneCell']) (by unfold maxLen; omega) (by omega) (by simp; omega) ?_; intro v' w2 hown hgrow hnil)
        go_roundw
        case rel =>
          refine ⟨k + 1, by omega, by go_num, ?_, by rw [HM.out], ?_, HBA.out.grown hgrow (by simp; omega) HOA.out.block_le⟩
          · intro j hj
            by_cases e : j = k
            · rw [e, hq]; exact HZ.out
            · exact HA.out j (by omega)
          · rw [HX.out]
            refine ow_snoc HOA.out (by rw [HL.out]; omega) hrl ?_
            rw [HL.out]
            exact hown
        case measure => simp [intOf]; omega
    · have hke : k = n := by omega
      subst hke
      have hb := HB.out
      have hco := conv_ow HO.out
      have hse := HS.out
      have hnl : ¬ (2 * (k : Int)) < (s.size : Int) := by omega
      clear hse
      go_wp2_with fail
      go_ret3
      exact ⟨HB.out, .inr ⟨HA.out, rfl⟩⟩
set_option maxRecDepth 100000 in
theorem readAll_many (s : ByteArray) (hs : 128 < s.size) (w : World) :
    Calls Tryd.prog 6 #[.string s] w fun e w' => e = .returned (.tuple #[.string (mkS []), .int .i64 0, .int .i64 2]) ∧ w' = w := by
  have hd : decide ((s.size : Int) > 128) = true := decide_eq_true (by omega)
  go_enter Tryd.func6, Tryd.ntmps6
  go_wp2_with fail
  go_ret3
  exact ⟨rfl, rfl⟩
set_option maxRecDepth 100000 in
theorem readAll_odd (s : ByteArray) (hs : s.size ≤ 128) (ho : s.size % 2 = 1) (w : World) :
    Calls Tryd.prog 6 #[.string s] w fun e w' => e = .returned (.tuple #[.string (mkS []), .int .i64 0, .int .i64 1]) ∧ w' = w := by
  have hd : decide ((s.size : Int) > 128) = false := decide_eq_false (by omega)
  have d2 : ((s.size : Int) % 2 != 0) = true := by rw [bne_iff_ne]; omega
  clear ho
  go_enter Tryd.func6, Tryd.ntmps6
  go_wp2_with fail
  go_ret3
  exact ⟨rfl, rfl⟩
end Go.Proofs.YtiiickinlklelaaDoor
