/- What math/bits.OnesCount16 and odd of package word answer, for every word. -/
import Derived.Test.YtiiickinlklelaaDoorRows
import Derived.Test.YtiiickinlklelaaDoorWd
import Derived.WalkKit
import Derived.ProofKit
import Derived.OpenShut
import Derived.Below
import Derived.Deep.QuietTactic
import Derived.BigQuiet
namespace Go.Proofs.YtiiickinlklelaaDoor
open Go.ChangeShapes Go.WideShapes Go.ChangeAt Go.RowKit
theorem ret_int {k : IntKind} {a b : Int} (h : a = b) : Ending.returned (.int k a) = .returned (.int k b) := by rw [h]
theorem ret_bool {a b : Bool} (h : a = b) : Ending.returned (.bool a) = .returned (.bool b) := by rw [h]
theorem hid_of {p : Prop} (h : p) : Hid p := h
/-- how many bits of each byte are 1: the library's own table -/
abbrev pop8 : ByteArray := ByteArray.mk (((([0, 1, 1, 2, 1, 2, 2, 3, 1, 2, 2, 3, 2, 3, 3, 4, 1, 2, 2, 3, 2, 3, 3, 4, 2, 3, 3, 4, 3, 4, 4, 5, 1, 2, 2, 3, 2, 3, 3, 4, 2, 3, 3, 4, 3, 4, 4, 5, 2, 3, 3, 4, 3, 4, 4, 5, 3, 4, 4, 5, 4, 5, 5, 6] : List UInt8).append [1, 2, 2, 3, 2, 3, 3, 4, 2, 3, 3, 4, 3, 4, 4, 5, 2, 3, 3, 4, 3, 4, 4, 5, 3, 4, 4, 5, 4, 5, 5, 6, 2, 3, 3, 4, 3, 4, 4, 5, 3, 4, 4, 5, 4, 5, 5, 6, 3, 4, 4, 5, 4, 5, 5, 6, 4, 5, 5, 6, 5, 6, 6, 7]).append (([1, 2, 2, 3, 2, 3, 3, 4, 2, 3, 3, 4, 3, 4, 4, 5, 2, 3, 3, 4, 3, 4, 4, 5, 3, 4, 4, 5, 4, 5, 5, 6, 2, 3, 3, 4, 3, 4, 4, 5, 3, 4, 4, 5, 4, 5, 5, 6, 3, 4, 4, 5, 4, 5, 5, 6, 4, 5, 5, 6, 5, 6, 6, 7] : List UInt8).append [2, 3, 3, 4, 3, 4, 4, 5, 3, 4, 4, 5, 4, 5, 5, 6, 3, 4, 4, 5, 4, 5, 5, 6, 4, 5, 5, 6, 5, 6, 6, 7, 3, 4, 4, 5, 4, 5, 5, 6, 4, 5, 5, 6, 5, 6, 6, 7, 4, 5, 5, 6, 5, 6, 6, 7, 5, 6, 6, 7, 6, 7, 7, 8])).toArray)
set_option maxRecDepth 100000 in
theorem pop_chk : Wd.allP (fun k => (pop8.data.toList[k]?.map (·.toNat)) == some (Wd.pp k)) 8 0 = true := by decide +kernel
theorem pop_at (k : Nat) (h : k < 256) (hs : k < pop8.size) : (pop8[k]'hs).toNat = Wd.pp k := by
  have := Wd.all_lt pop_chk (i := k) h
  rw [beq_iff_eq, Option.map_eq_some_iff] at this
  obtain ⟨a, h1, h2⟩ := this
  obtain ⟨h3, h4⟩ := List.getElem?_eq_some_iff.1 h1
  rw [← h2, ← h4]
  rfl
theorem pop_size : pop8.size = 256 := by decide +kernel
set_option maxRecDepth 100000 in
set_option maxHeartbeats 400000 in
theorem ones_any (R : Nat) (w : World) (h1 : R < 65536) :
    Calls Tryd.prog 19 #[.int .u16 R] w fun e w' => e = .returned (.int .i64 (Wd.pp (R / 256) + Wd.pp (R % 256) : Nat)) ∧ ∃ n, w' = w.drewN n := by
  have q1 : bits .and .u16 (R : Int) 255 = ((R % 256 : Nat) : Int) := by
    rw [show R % 256 = R &&& 255 from (Nat.and_two_pow_sub_one_eq_mod R 8).symm]
    exact u16_and_nat R 255 (by omega) (by omega)
  have i1 := pop_at (R / 256) (by omega)
  have i2 := pop_at (R % 256) (by omega)
  have hz := pop_size
  have p1 : Wd.pp (R / 256) < 16 := Nat.mod_lt _ (by decide)
  have p2 : Wd.pp (R % 256) < 16 := Nat.mod_lt _ (by decide)
  generalize Wd.pp (R / 256) = A at *
  generalize Wd.pp (R % 256) = B at *
  go_enter Tryd.func19, Tryd.ntmps19
  obtain ⟨S, hS⟩ : ∃ S, pop8 = S := ⟨_, rfl⟩
  rw [hS] at i1 i2 hz
  unfold pop8 at hS
  rw [hS]
  clear hS
  have e1 : ∀ W, (Instr.index 9 (.string S) (.int .u16 ((R : Int) / 256))).run Tryd.prog W = .ok (.int .u8 (A : Nat)) W := fun W => by
    rw [run_index_string W 9 S .u16 _ Tryd.underlying9, dif_pos (by rw [hz]; omega), ← i1 (by rw [hz]; omega)]
    rfl
  have e2 : ∀ W, (Instr.index 9 (.string S) (.int .u16 ((R : Int) % 256))).run Tryd.prog W = .ok (.int .u8 (B : Nat)) W := fun W => by
    rw [run_index_string W 9 S .u16 _ Tryd.underlying9, dif_pos (by rw [hz]; omega), ← i2 (by rw [hz]; omega)]
    rfl
  clear i1 i2 hz
  go_wp2
  go_quiet (fail)
  go_wp2
  go_ret
  exact ⟨ret_int (by omega), _, rfl⟩
set_option maxHeartbeats 400000 in
theorem odd_any (R : Nat) (w : World) (h1 : R < 65536) :
    Calls Tryd.prog 14 #[.int .u16 R] w fun e w' => e = .returned (.bool (Wd.od R)) ∧ ∃ n, w' = w.drewN n := by
  have p1 : Wd.pp (R / 256) < 16 := Nat.mod_lt _ (by decide)
  have p2 : Wd.pp (R % 256) < 16 := Nat.mod_lt _ (by decide)
  have HO : Hid (Wd.od R = Nat.beq ((Wd.pp (R / 256) + Wd.pp (R % 256)) % 2) 1) := rfl
  have hc := hid_of (ones_any R w h1)
  generalize Wd.pp (R / 256) + Wd.pp (R % 256) = A at *
  go_enter Tryd.func14, Tryd.ntmps14
  go_wp2_with fail
  refine hc.out.mono ?_
  rintro e w' ⟨rfl, n, rfl⟩
  go_wp2_with fail
  go_ret
  exact ⟨ret_bool (by rw [HO.out, Bool.eq_iff_iff]; simp; omega), n, rfl⟩
end Go.Proofs.YtiiickinlklelaaDoor
