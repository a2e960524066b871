/- The greatest of stamps: what is to be shown. -/
import Derived.Test.YtbmbnbhedalcnaaXg0
import Derived.Test.YtbmbnbhedalcnaaZw
namespace Go.Proofs.Ytbmbnbhedalcnaa
open Go.RowKit
abbrev stK : List LK := [.kInt .i64, .kInt .i64]
def stp (vs : List Value) : St := (intV (hdV vs), intV (hdV (tlV vs)))
/-- what is wrong with the first k -/
def mxE (g : Nat → List Value) : Nat → Int
  | 0 => 0
  | k + 1 => bif mxE g k != 0 then mxE g k else sck (stp (g k))
/-- the greatest of them, up to the first that is wrong -/
def mxW (g : Nat → List Value) : Nat → St
  | 0 => (0, 0)
  | k + 1 => bif mxE g (k + 1) != 0 then mxW g k else bif slt (mxW g k) (stp (g k)) then stp (g k) else mxW g k
def maxE (m : Nat) (g : Nat → List Value) : Int := bif decide (64 < m) then 2 else mxE g m
def maxV (m : Nat) (g : Nat → List Value) : St := bif maxE m g != 0 then (0, 0) else mxW g m
def gMax : List CA → Option Value
  | [.rows _ m g] => some (.tuple ⟨[.agg ⟨[.int .i64 (maxV m g).1, .int .i64 (maxV m g).2]⟩, .int .i64 (maxE m g)]⟩)
  | _ => none
theorem mxE_stop {g : Nat → List Value} {j : Nat} (h0 : mxE g j = 0) (h : sck (stp (g j)) ≠ 0) : ∀ {m}, j < m → mxE g m = sck (stp (g j)) ∧ mxW g m = mxW g j
  | 0, hj => by omega
  | m + 1, hj => by
    by_cases e : j = m
    · subst e
      have h1 : mxE g (j + 1) = sck (stp (g j)) := by unfold mxE; rw [h0]; rfl
      refine ⟨h1, ?_⟩
      show (bif mxE g (j + 1) != 0 then mxW g j else _) = mxW g j
      rw [h1, show (sck (stp (g j)) != 0) = true by simpa using h]
      rfl
    · obtain ⟨i1, i2⟩ := mxE_stop h0 h (m := m) (by omega)
      have h1 : mxE g (m + 1) = sck (stp (g j)) := by unfold mxE; rw [i1, show (sck (stp (g j)) != 0) = true by simpa using h]; rfl
      refine ⟨h1, ?_⟩
      show (bif mxE g (m + 1) != 0 then mxW g m else _) = mxW g j
      rw [h1, show (sck (stp (g j)) != 0) = true by simpa using h]
      exact i2
theorem mxE_step {g : Nat → List Value} {j : Nat} (h0 : mxE g j = 0) (h : sck (stp (g j)) = 0) : mxE g (j + 1) = 0 ∧ mxW g (j + 1) = bif slt (mxW g j) (stp (g j)) then stp (g j) else mxW g j := by
  have h1 : mxE g (j + 1) = 0 := by unfold mxE; rw [h0]; exact h
  refine ⟨h1, ?_⟩
  show (bif mxE g (j + 1) != 0 then _ else _) = _
  rw [h1]
  rfl
def keepMx : AE → List Nat
  | .normal => [2, 4, 13, 14, 15]
  | .exit _ => [2, 4]
  | .ret => [2, 3]
def gMxL : List Value → List AObj → (AE → List Value → List AObj → Out) → Out
  | [.pointer (some ⟨1, 0, none⟩), .pointer (some ⟨2, 0, none⟩), .slice (some ⟨0, 0, some 0⟩) l c, .int .i64 n, .int .i64 i], [.recs sh m g, .cells T1 [.int .i64 a, .int .i64 b], .cells T2 [.int .i64 x, .int .i64 y]], k => (match shEq sh stK with
    | true => .ask (l = m ∧ c = m ∧ n = m ∧ i = 0 ∧ x = 0 ∧ y = 0 ∧ m ≤ 140737488355328)
        (tst (mxE g m != 0) (k .ret [.pointer (some ⟨1, 0, none⟩), .int .i64 (mxE g m)] [.recs sh m g, .cells T1 [.int .i64 0, .int .i64 0], .cells T2 [.int .i64 (mxW g m).1, .int .i64 (mxW g m).2]])
          (k (.exit 0) [.pointer (some ⟨1, 0, none⟩), .pointer (some ⟨2, 0, none⟩)] [.recs sh m g, .cells T1 [.int .i64 a, .int .i64 b], .cells T2 [.int .i64 (mxW g m).1, .int .i64 (mxW g m).2]]))
    | false => .bad)
  | _, _, _ => .bad
def lMx : Nat → Option LCon := oneL 5 (lspec 31 keepMx 3 gMxL)
noncomputable def K12 : Kn := K11.addQ 9 (listC [.one (.rows stK)] gMax)
end Go.Proofs.Ytbmbnbhedalcnaa
