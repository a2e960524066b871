/- What byteOf of package word answers, for every word. -/
import Derived.Test.YtiiickinlklelaaDoorTz
import Derived.Deep.MidRow
namespace Go.Proofs.YtiiickinlklelaaDoor
open Go.ChangeShapes Go.WideShapes Go.ChangeAt Go.RowKit
def plL : List Value := (List.range 8).map fun i => .int .i64 (Wd.pl i : Nat)
theorem plL_len : plL.length = 8 := by simp [plL]
theorem plL_get {i : Nat} (h : i < 8) : plL[i]? = some (.int .i64 (Wd.pl i : Nat)) := by simp [plL, h]
theorem und41 : Tryd.prog.underlying 41 = some (.array 8 3) := by kernel_rfl
theorem info41 : (Tryd.prog.info? 41).map (·.size) = some 8 := by kernel_rfl
theorem Gl.range {w : World} (h : Gl w) : w.rangeAt 0 0 plL := by
  intro j v hv
  have hj : j < 8 := by have := (List.getElem?_eq_some_iff.1 hv).1; rw [plL_len] at this; exact this
  rw [plL_get hj] at hv
  rw [Nat.zero_add, h.pl j hj, Option.some.inj hv]
theorem agg3 (w : World) : (isAgg 3).run Tryd.prog w = .ok false w := by kernel_rfl
theorem size3 (w : World) : (sizeOf 3).run Tryd.prog w = .ok 1 w := by kernel_rfl
theorem index41 (k : Nat) (hk : k < 8) (w : World) : (Instr.index 41 (.agg plL.toArray) (.int .i64 k)).run Tryd.prog w = .ok (.int .i64 (Wd.pl k : Nat)) w := by
  have h1 := run_underlying und41 w
  have h2 : plL.toArray[k]? = some (.int .i64 (Wd.pl k : Nat)) := by rw [List.getElem?_toArray, plL_get hk]
  have h3 : (0 : Int) ≤ k ∧ (k : Int) < (8 : Nat) := by omega
  simp only [Instr.index, asIntOf, Sem.run_bind, Sem.run_pure, Result.andThen_ok, h1, if_pos h3, size3, part, agg3, Int.toNat_natCast, Nat.mul_one, h2]
  simp
theorem pl_lt {k : Nat} (hk : k < 8) : Wd.pl k ≤ 12 := by
  have : ∀ i : Fin 8, Wd.pl i.val ≤ 12 := by decide
  exact this ⟨k, hk⟩
theorem bo_step {R k : Nat} (hR : R < 65536) (hk : k < 8) (hb : Wd.bo R k < 256) :
    bits .or .u8 (Wd.bo R k : Nat) (bits .and .u16 ((R : Int) / 2 ^ Wd.pl k) 1 % 256 * 2 ^ k % 256) = (Wd.bo R (k + 1) : Nat) ∧ Wd.bo R (k + 1) < 256 := by
  have e0 : (R : Int) / 2 ^ Wd.pl k = ((R / 2 ^ Wd.pl k : Nat) : Int) := by push_cast; rfl
  have e1 := u16_and_nat (R / 2 ^ Wd.pl k) 1 (Nat.lt_of_le_of_lt (Nat.div_le_self _ _) hR) (by decide)
  rw [Nat.and_one_is_mod] at e1
  have e1' : bits .and .u16 ((R : Int) / 2 ^ Wd.pl k) 1 = ((R / 2 ^ Wd.pl k % 2 : Nat) : Int) := by rw [e0]; exact e1
  have hm : R / 2 ^ Wd.pl k % 2 < 2 := Nat.mod_lt _ (by decide)
  have hp : (2 : Nat) ^ k ≤ 128 := Nat.le_trans (Nat.pow_le_pow_right (by decide) (show k ≤ 7 by omega)) (by decide)
  have ex : Wd.bo R (k + 1) = Wd.bo R k ||| (R / 2 ^ Wd.pl k % 2 * 2 ^ k) := rfl
  generalize R / 2 ^ Wd.pl k % 2 = M at *
  have hM : M * 2 ^ k < 256 := Nat.lt_of_le_of_lt (Nat.mul_le_mul (show M ≤ 1 by omega) hp) (by decide)
  have e2 : (M : Int) % 256 * 2 ^ k % 256 = ((M * 2 ^ k : Nat) : Int) := by
    have h0 : (M : Int) % 256 = M := by omega
    rw [h0]
    have h1 : (M : Int) * 2 ^ k = ((M * 2 ^ k : Nat) : Int) := by push_cast; rfl
    rw [h1]
    omega
  rw [e1', e2, ex]
  exact ⟨u8_or_nat _ _ hb hM, Nat.or_lt_two_pow (n := 8) hb hM⟩
set_option maxHeartbeats 1000000 in
theorem byteOf_any (R : Nat) (w : World) (h1 : R < 65536) (hG : Gl w) :
    Calls Tryd.prog 15 #[.int .u16 R] w fun e w' => e = .returned (.int .u8 (Wd.bo R 8 : Nat)) ∧ w' = w := by
  have HG := hid_of hG
  clear hG
  go_enter Tryd.func15, Tryd.ntmps15
  go_wp2_with (refine wpList_load_mid rfl 41 _ rfl 0 0 rfl plL _ HG.out.range und41 rfl (by rw [plL_len]; exact info41) ?_)
  go_loop [3, 7] (fun b i => ∃ k : Nat, k ≤ 8 ∧ i = .int .i64 k ∧ b = .int .u8 (Wd.bo R k : Nat) ∧ Wd.bo R k < 256) (fun _ i => 8 - (intOf i).toNat)
  case atStart => exact ⟨0, by omega, rfl, rfl, show 0 < 256 by decide⟩
  case round =>
    obtain ⟨k, hk, rfl, rfl, hb⟩ := hrel
    by_cases hlt : k < 8
    · have hi := index41 k hlt
      have hp := pl_lt hlt
      have HS := hid_of (bo_step h1 hlt hb)
      go_wp2_with fail
      go_round
      case rel => exact ⟨k + 1, by omega, by go_num, by rw [HS.out.1], HS.out.2⟩
      case measure => simp [intOf]; omega
    · have hk' : k = 8 := by omega
      subst hk'
      go_wp2_with fail
      go_ret
      exact ⟨rfl, rfl⟩
end Go.Proofs.YtiiickinlklelaaDoor
