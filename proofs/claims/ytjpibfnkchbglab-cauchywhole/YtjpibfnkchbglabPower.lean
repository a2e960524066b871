/- What field.turn and field.Power answer, for every number. -/
import Derived.Test.YtjpibfnkchbglabPow
namespace Go.Proofs.Ytjpibfnkchbglab
open Go.ChangeShapes Go.WideShapes Go.ChangeAt Go.RowKit
theorem laid_range (w1 : World) (zs cs : List Value) (t : Nat) (hl : zs.length = cs.length) : ((w1.alloc (.cells zs.toArray t)).setCells w1.heap.size 0 cs).rangeAt w1.heap.size 0 cs :=
  World.rangeAt_setCells_same _ _ _ _ (hl ▸ there_new w1 zs t _ rfl)
theorem laid_below {B : Nat} {w w1 : World} (zs cs : List Value) (t : Nat) (h : Below B w w1) (hB : B ≤ w1.heap.size) : Below B w ((w1.alloc (.cells zs.toArray t)).setCells w1.heap.size 0 cs) :=
  below_setCells _ hB _ _ _ (h.alloc hB _)
theorem turn_neg {n : Int} (h : n.tmod 255 < 0) : wrap64 (n.tmod 255 + 255) = n % 255 := by
  have hm : n.tmod 255 = n % 255 - ↑(if 0 ≤ n ∨ (255 : Int) ∣ n then 0 else Int.natAbs 255) := Int.tmod_eq_emod
  have hb1 : 0 ≤ n % 255 := Int.emod_nonneg _ (by decide)
  have hb2 : n % 255 < 255 := Int.emod_lt_of_pos _ (by decide)
  by_cases c : 0 ≤ n ∨ (255 : Int) ∣ n
  · rw [if_pos c] at hm; omega
  · rw [if_neg c] at hm
    simp only [wrap64]
    omega
theorem turn_pos {n : Int} (h : ¬ n.tmod 255 < 0) : n.tmod 255 = n % 255 := by
  have hm : n.tmod 255 = n % 255 - ↑(if 0 ≤ n ∨ (255 : Int) ∣ n then 0 else Int.natAbs 255) := Int.tmod_eq_emod
  have hb2 : n % 255 < 255 := Int.emod_lt_of_pos _ (by decide)
  by_cases c : 0 ≤ n ∨ (255 : Int) ∣ n
  · rw [if_pos c] at hm; omega
  · rw [if_neg c] at hm; omega
theorem turn_any (n : Int) (w : World) :
    Calls Try.prog 82 #[.int .i64 n] w fun e w' => e = .returned (.int .i64 (n % 255)) ∧ w' = w := by
  by_cases h : n.tmod 255 < 0
  · have HE : Hid (wrap64 (n.tmod 255 + 255) = n % 255) := turn_neg h
    go_enter Try.func82, Try.ntmps82
    go_wp2
    go_ret
    exact ⟨ret_int HE.out, rfl⟩
  · have HE : Hid (n.tmod 255 = n % 255) := turn_pos h
    go_enter Try.func82, Try.ntmps82
    go_wp2
    go_ret
    exact ⟨ret_int HE.out, rfl⟩
set_option maxRecDepth 100000 in
set_option maxHeartbeats 1000000 in
theorem power_any (n : Int) (w : World) :
    Calls Try.prog 62 #[.int .i64 n] w fun e w' => e = .returned (.int .u8 (Gf.pw (n % 255).toNat)) ∧ Below w.heap.size w w' := by
  have hz := zero38
  have hb1 : 0 ≤ n % 255 := Int.emod_nonneg _ (by decide)
  have hb2 : n % 255 < 255 := Int.emod_lt_of_pos _ (by decide)
  go_enter Try.func62, Try.ntmps62
  go_wp2_with fail
  refine (powers_any _).mono ?_
  rintro e w1 ⟨rfl, hb⟩
  go_wp2_with (refine wpList_store_mid rfl 91 _ _ rfl w1.heap.size 0 (pL 255).toArray rfl rfl ?_ ?_ ?_ ?_)
  · rw [size_pL, ← pL_len 0]; exact there_new _ _ _ _ rfl
  · rw [size_pL]; exact info38
  · exact one_pL 255
  · refine (turn_any n _).mono ?_
    rintro e w2 ⟨rfl, rfl⟩
    have hr := laid_range w1 (pL 0) (pL 255) 91 (by rw [pL_len, pL_len])
    have hB := laid_below (pL 0) (pL 255) 91 hb hb.size
    have hg := hr (n % 255).toNat _ (pL_get (by omega))
    rw [if_pos (by omega), Nat.zero_add] at hg
    clear hr hz
    rw [← Z38] at hg hB
    generalize (w1.alloc (.cells Z38 91)).setCells w1.heap.size 0 (pL 255) = w3 at *
    have hcell : w3.cell? ⟨w1.heap.size, (n % 255).toNat, none⟩ = some (.int .u8 (Gf.pw (n % 255).toNat)) := hg
    clear hg
    go_wp2
    go_ret
    exact ⟨rfl, hB⟩
end Go.Proofs.Ytjpibfnkchbglab
