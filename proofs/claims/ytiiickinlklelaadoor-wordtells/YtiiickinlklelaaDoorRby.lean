/- What the reference's byteOf answers, for every word. -/
import Derived.Test.YtiiickinlklelaaDoorRt
namespace Go.Proofs.YtiiickinlklelaaDoor
open Go.ChangeShapes Go.WideShapes Go.ChangeAt Go.RowKit Go.Shelf
theorem rv_lt (w : Nat) : ∀ k, k ≤ 8 → Wd.rv w k < 2 ^ k
  | 0, _ => by show 0 < 1; decide
  | k + 1, h => by
    have h1 := rv_lt w k (by omega)
    have h2 := bt_lt w (Wd.pl (7 - k))
    show 2 * Wd.rv w k + Wd.bt w (Wd.pl (7 - k)) < 2 ^ (k + 1)
    rw [Nat.pow_succ]
    omega
def plC : Array Value := #[.int .i64 3, .int .i64 5, .int .i64 6, .int .i64 7, .int .i64 9, .int .i64 10, .int .i64 11, .int .i64 12]
theorem plC_get (i : Nat) (h : i < 8) : plC[i]? = some (.int .i64 (Wd.pl i : Nat)) := by
  have e : plC = plL.toArray := by kernel_rfl
  rw [e, List.getElem?_toArray, plL_get h]
theorem new_cell (w : World) (C : Array Value) (t : TypeId) (i : Nat) : (w.alloc (.cells C t)).cell? ⟨w.heap.size, i, none⟩ = C[i]? := World.cell?_alloc_mark w C t (0, 0) i
set_option maxRecDepth 100000 in
set_option maxHeartbeats 2000000 in
theorem refByte_any (R : Nat) (hR : R < 65536) (w : World) :
    Calls Tryd.prog 17 #[.int .u16 R] w fun e w' => e = .returned (.int .u8 (Wd.rv R 8 : Nat)) ∧ Below w.heap.size w w' := by
  have HB : Hid (Below w.heap.size w (w.alloc (.cells plC 3))) := (Below.refl _ w).alloc (Nat.le_refl _) _
  have hcell := hid_of (fun i h => (new_cell w plC 3 i).trans (plC_get i h))
  go_enter Tryd.func17, Tryd.ntmps17
  go_wp2_with fail
  go_loop [4, 5] (fun n i => ∃ k : Nat, k ≤ 8 ∧ i = .int .i64 (7 - (k : Int)) ∧ n = .int .i64 (Wd.rv R k : Nat)) (fun _ i => (intOf i + 1).toNat)
  case atStart => exact ⟨0, by omega, rfl, rfl⟩
  case round =>
    obtain ⟨k, hk, rfl, rfl⟩ := hrel
    have hl := rv_lt R k hk
    have hp : (2 : Nat) ^ k ≤ 256 := Nat.le_trans (Nat.pow_le_pow_right (n := 2) (i := k) (j := 8) (by decide) hk) (by decide)
    by_cases hlt : k < 8
    · obtain ⟨j, hj⟩ : ∃ j : Nat, 7 - k = j := ⟨_, rfl⟩
      have e1 : (7 : Int) - (k : Int) = (j : Int) := by omega
      have hj8 : j < 8 := by omega
      have hc := hcell.out j hj8
      have hpl := pl_lt hj8
      have HS := hid_of (show Wd.rv R (k + 1) = 2 * Wd.rv R k + Wd.bt R (Wd.pl j) by rw [← hj]; rfl)
      have hb := hid_of (fun W => bit16_any R (Wd.pl j) hR (by omega) W)
      have hb2 := bt_lt R (Wd.pl j)
      have hV : Wd.rv R k < 256 := by omega
      rw [e1]
      generalize Wd.bt R (Wd.pl j) = b at *
      generalize Wd.pl j = p at *
      generalize Wd.rv R k = V at *
      have HJ := hid_of hj
      clear e1 hj hl hp
      unfold plC at hc
      go_wp2_with fail
      refine (hb.out _).mono ?_
      rintro e w1 ⟨rfl, rfl⟩
      go_wp2_with fail
      go_round
      case rel => exact ⟨k + 1, by omega, by rw [show (7 : Int) - ((k + 1 : Nat) : Int) = (j : Int) - 1 by have := HJ.out; omega], by rw [HS.out]; go_num⟩
      case measure => simp [intOf]
    · obtain rfl : k = 8 := by omega
      have hV : Wd.rv R 8 < 256 := hl
      go_wp2_with fail
      go_ret
      exact ⟨ret_int (by omega), HB.out⟩
end Go.Proofs.YtiiickinlklelaaDoor
