/- The tables as they are laid; what math/bits.TrailingZeros16 answers, for every word that is not 0. -/
import Derived.Test.YtiiickinlklelaaDoorOdd
import Derived.WalkKit
import Derived.ProofKit
import Derived.OpenShut
import Derived.Below
namespace Go.Proofs.YtiiickinlklelaaDoor
open Go.ChangeShapes Go.WideShapes Go.ChangeAt Go.RowKit
/-- the two tables as their initialisers lay them -/
structure Gl (w : World) : Prop where
  pl : ∀ i, i < 8 → w.cell? ⟨0, i, none⟩ = some (.int .i64 (Wd.pl i : Nat))
  tb : ∀ i, i < 32 → w.cell? ⟨1, i, none⟩ = some (.int .u8 (Wd.tb i : Nat))
  sz : 2 ≤ w.heap.size
theorem Gl.below {n : Nat} {w w' : World} (h : Gl w) (hn : 2 ≤ n) (hb : Below n w w') : Gl w' :=
  ⟨fun i hi => (hb.cell (p := ⟨0, i, none⟩) (by show 0 < n; omega)).trans (h.pl i hi), fun i hi => (hb.cell (p := ⟨1, i, none⟩) (by show 1 < n; omega)).trans (h.tb i hi), Nat.le_trans h.sz hb.size⟩
set_option maxHeartbeats 400000 in
theorem tz_any (R : Nat) (w : World) (h0 : 0 < R) (h1 : R < 65536) (hG : Gl w) :
    Calls Tryd.prog 22 #[.int .u16 R] w fun e w' => e = .returned (.int .i64 (Wd.tz R : Nat)) ∧ w' = w := by
  have q : ((R : Int) == 0) = false := by simp; omega
  have q0 : IntKind.u16.wrap (-(R : Int)) = ((65536 - R : Nat) : Int) := by rw [IntKind.wrap_u16]; omega
  have q1 := u16_and_nat R (65536 - R) (by omega) (by omega)
  obtain ⟨X, hX⟩ : ∃ X, R &&& (65536 - R) = X := ⟨_, rfl⟩
  have hX2 : X < 65536 := by rw [← hX]; exact Nat.lt_of_le_of_lt Nat.and_le_left (by omega)
  have hc : w.cell? ⟨1, X * 125613361 % 4294967296 / 134217728, none⟩ = some (.int .u8 (Wd.tz R : Nat)) := by
    rw [hG.tb _ (by omega)]
    subst hX
    rfl
  have hl : Wd.tz R < 256 := Nat.mod_lt _ (by decide)
  generalize Wd.tz R = Z at *
  rw [hX] at q1
  clear hX hG
  go_enter Tryd.func22, Tryd.ntmps22
  go_wp2
  go_ret
  exact ⟨ret_int (by omega), rfl⟩
end Go.Proofs.YtiiickinlklelaaDoor
