/- What WriteAll of package word answers, for every text. -/
import Derived.Test.YtiiickinlklelaaDoorMb
import Derived.Test.YtiiickinlklelaaDoorWdC
namespace Go.Proofs.YtiiickinlklelaaDoor
open Go.ChangeShapes Go.WideShapes Go.ChangeAt Go.RowKit Go.Shelf
/-- the words of some bytes, as bytes -/
def wa (L : List Nat) : List Nat := L.flatMap fun b => [Wd.wr b / 256, Wd.wr b % 256]
theorem wa_len (L : List Nat) : (wa L).length = 2 * L.length := by
  induction L with
  | nil => rfl
  | cons x L ih => simp only [wa, List.flatMap_cons, List.length_append, List.length_cons, List.length_nil] at ih ⊢; omega
theorem wa_snoc (L : List Nat) (x : Nat) : wa (L ++ [x]) = wa L ++ [Wd.wr x / 256, Wd.wr x % 256] := by simp [wa]
theorem wr_lt {b : Nat} (h : b < 256) : Wd.wr b < 8192 := by
  have := Wd.all_lt Wd.back_chk (i := b) h
  simp only [Bool.and_eq_true, Nat.ble_eq] at this
  omega
theorem news_two (w : World) (u v : Value) (j : Nat) (x : Value) (h : [u, v][j]? = some x) : (w.alloc (.cells #[u, v] 5)).cell? ((⟨w.heap.size, 0, none⟩ : Addr).add j) = some x := by
  have e := World.cell?_alloc_mark w #[u, v] 5 (0, 0) j
  rw [Addr.add_mid, Nat.zero_add]
  refine e.trans ?_
  rw [← h]
  simp
/-- two bytes more behind a list that the call made itself -/
theorem ow_snoc2 {base : Nat} {w w' : World} {v v' : Value} {L : List Nat} {x y : Nat} (h : Ow base w v L) (hl : L.length + 2 ≤ 140737488351232) (hx : x < 256) (hy : y < 256) (ho : w'.ownsRow base 5 1 v' (L.length + 2) (cellsB L ++ [.int .u8 (x : Nat), .int .u8 (y : Nat)])) : Ow base w' v' (L ++ [x, y]) := by
  refine ⟨?_, ?_, ?_⟩
  · rw [List.length_append]
    have e : cellsB (L ++ [x, y]) = cellsB L ++ [.int .u8 (x : Nat), .int .u8 (y : Nat)] := by simp [cellsB]
    rw [e]; exact ho
  · intro z hz
    rcases List.mem_append.1 hz with hz | hz
    · exact h.2.1 z hz
    · simp at hz
      rcases hz with rfl | rfl
      · exact hx
      · exact hy
  · rw [List.length_append]; exact hl
set_option maxRecDepth 100000 in
set_option maxHeartbeats 2000000 in
theorem writeAll_any (s : ByteArray) (hs : s.size ≤ 64) (w : World) (hG : Gl w) :
    Calls Tryd.prog 5 #[.string s] w fun e w' => e = .returned (.tuple #[.string (mkS (wa (bl s))), .int .i64 0]) ∧ Below w.heap.size w w' := by
  obtain ⟨cap, W, hcv, hcs, hB, hsz⟩ := conv_str s w
  have hd : decide ((s.size : Int) > 64) = false := decide_eq_false (by omega)
  have HC := hid_of hcs
  have HB0 := hid_of hB
  have HG := hid_of hG
  have h2 := hG.sz
  obtain ⟨i0, hi, hz0, hz1, hz2⟩ := info_parts info5
  have HZ := hid_of hsz
  clear hcs hB hG hsz
  go_enter Tryd.func5, Tryd.ntmps5
  go_wp2_with fail
  go_loopw [4, 14] (fun v i w' => ∃ k : Nat, k ≤ s.size ∧ i = .int .i64 k ∧ Hid (Ow (w.heap.size + 1) w' v (wa ((bl s).take k))) ∧ Hid (Below (w.heap.size + 1) W w')) (fun _ i _ => s.size - (intOf i).toNat)
  case atStart => exact ⟨0, by omega, rfl, ⟨World.ownsRow_nil _ _ _ _, by simp [wa], by simp [wa]⟩, Below.refl _ _⟩
  case round =>
    obtain ⟨k, hk, rfl, HO, HB⟩ := hrel
    rename_i v wr
    obtain ⟨va, vc, hvs⟩ := HO.out.shape
    have hwl : (wa ((bl s).take k)).length = 2 * k := by rw [wa_len, List.length_take, bl_len]; omega
    have hWr := HB.out.size
    rw [HZ.out] at hWr
    by_cases hlt : k < s.size
    · have hx := (HB.out.cell (p := ⟨w.heap.size, k, none⟩) (by show w.heap.size < w.heap.size + 1; omega)).trans (HC.out k hlt)
      have hx2 : (bl s)[k]?.getD 0 < 256 := by
        have hkl : k < (bl s).length := by rw [bl_len]; exact hlt
        rw [List.getElem?_eq_getElem hkl]; exact bl_lt s _ (List.getElem_mem hkl)
      have HT := hid_of (show (bl s).take (k + 1) = (bl s).take k ++ [(bl s)[k]?.getD 0] by
        have hkl : k < (bl s).length := by rw [bl_len]; exact hlt
        rw [List.take_succ_eq_append_getElem hkl, List.getElem?_eq_getElem hkl]; rfl)
      generalize (bl s)[k]?.getD 0 = x at *
      have hwx := wr_lt hx2
      have hGW := HG.out.below (n := w.heap.size) h2 (HB0.out.trans (HB.out.mono (by omega)))
      have hww := hid_of (write_any x hx2 wr hGW)
      have HX := hid_of (wa_snoc ((bl s).take k) x)
      generalize Wd.wr x = y at *
      rw [hwl] at hvs
      subst hvs
      go_wp2_with fail
      refine hww.out.mono ?_
      rintro e w1 ⟨rfl, hb1⟩
      have HB1 := hid_of (HB.out.trans (hb1.mono (by omega)))
      have HO1 := hid_of (HO.out.below hb1 (Nat.le_refl _))
      have HOA := hid_of (HO1.out.below ((Below.refl w1.heap.size w1).alloc (Nat.le_refl _) (.cells #[.int .u8 ((y : Int) / 256), .int .u8 ((y : Int) % 256)] 5)) (Nat.le_refl _))
      have hw1 : w.heap.size + 1 ≤ w1.heap.size := by have := hb1.size; omega
      have HBA := hid_of (HB1.out.alloc hw1 (.cells #[.int .u8 ((y : Int) / 256), .int .u8 ((y : Int) % 256)] 5))
      have HL := hid_of hwl
      clear hwl hb1
      go_wp2_with (at_builtin; refine wpList_append_own _ rfl _ _ 36 rfl (w.heap.size + 1) 5 i0 (.int .u8 0) 1 1 und33 hi hz0 hz1 hz2 rfl (by decide) _ (2 * k) (cellsB (wa ((bl s).take k))) rfl (by have h := HOA.out.1; rw [HL.out] at h; exact h) ⟨w1.heap.size, 0, none⟩ 2 2 [.int .u8 ((y : Int) / 256), .int .u8 ((y : Int) % 256)] rfl rfl (fun j u hj => by exact news_two w1 _ _ j u hj) (by simp [Value.oneCell']) (by unfold maxLen; omega) (by omega) (by simp; omega) ?_; intro v' w2 hown hgrow hnil)
      go_roundw
      case rel =>
        refine ⟨k + 1, by omega, by go_num, ?_, HBA.out.grown hgrow (by simp; omega) HOA.out.block_le⟩
        rw [HT.out, HX.out]
        refine ow_snoc2 HOA.out (by rw [HL.out]; omega) (by omega) (by omega) ?_
        rw [HL.out]
        exact hown
      case measure => simp [intOf]; omega
    · have hke : k = s.size := by omega
      have HE := hid_of (show (bl s).take k = bl s by rw [hke, ← bl_len, List.take_length])
      clear hke
      rw [HE.out] at HO hwl
      have hb := HB0.out.trans (HB.out.mono (Nat.le_succ _))
      have hco := conv_ow HO.out
      subst hvs
      rw [HE.out] at hco ⊢
      clear hwl
      go_wp2_with fail
      go_ret2
      exact ⟨rfl, hb⟩
set_option maxRecDepth 100000 in
theorem writeAll_long (s : ByteArray) (hs : 64 < s.size) (w : World) :
    Calls Tryd.prog 5 #[.string s] w fun e w' => e = .returned (.tuple #[.string (mkS []), .int .i64 2]) ∧ w' = w := by
  have hd : decide ((s.size : Int) > 64) = true := decide_eq_true (by omega)
  go_enter Tryd.func5, Tryd.ntmps5
  go_wp2_with fail
  go_ret2
  exact ⟨rfl, rfl⟩
end Go.Proofs.YtiiickinlklelaaDoor
