/- Are lists of votes the same: the words. -/
import Derived.Test.YtbmbnbhedalcnabXs
namespace Go.Proofs.Ytbmbnbhedalcnab
open Go.RowKit
/-- are the votes at place j the same? -/
def vEq (g h : Nat → List Value) (j : Nat) : Bool :=
  decide (intV (hdV (g j)) = intV (hdV (h j)) ∧ intV (hdV (tlV (g j))) = intV (hdV (tlV (h j))) ∧ intV (hdV (tlV (tlV (g j)))) = intV (hdV (tlV (tlV (h j)))) ∧ intV (hdV (tlV (tlV (tlV (g j))))) = intV (hdV (tlV (tlV (tlV (h j))))) ∧ intV (hdV (tlV (tlV (tlV (tlV (g j)))))) = intV (hdV (tlV (tlV (tlV (tlV (h j)))))) ∧ strV (hdV (tlV (tlV (tlV (tlV (tlV (g j))))))) = strV (hdV (tlV (tlV (tlV (tlV (tlV (h j))))))))
/-- are the first n the same? -/
def sameN (g h : Nat → List Value) : Nat → Bool
  | 0 => true
  | n + 1 => sameN g h n && vEq g h n
theorem sameN_at {g h : Nat → List Value} : ∀ {n j : Nat}, j < n → vEq g h j = false → sameN g h n = false
  | n + 1, j, hj, e => by
    show (sameN g h n && vEq g h n) = false
    by_cases hn : j = n
    · subst hn; rw [e, Bool.and_false]
    · rw [sameN_at (n := n) (by omega) e, Bool.false_and]
def keepSV : AE → List Nat
  | .normal => [0, 1, 5]
  | .exit _ => []
  | .ret => [4]
def gSVL : List Value → List AObj → (AE → List Value → List AObj → Out) → Out
  | [.slice (some ⟨0, 0, some 0⟩) l c, .slice (some ⟨1, 0, some 0⟩) l2 c2, .int .i64 i], [.recs sh m g, .recs sh2 m2 h], k => (match shEq sh vtK && shEq sh2 vtK with
    | true => .ask (l = m ∧ c = m ∧ l2 = m2 ∧ c2 = m2 ∧ m = m2 ∧ i = 0 ∧ m ≤ 140737488355328) (tst (sameN g h m) (k (.exit 0) [] [.recs sh m g, .recs sh2 m2 h]) (k .ret [.bool false] [.recs sh m g, .recs sh2 m2 h]))
    | false => .bad)
  | _, _, _ => .bad
def lSV : Nat → Option LCon := oneL 4 (lspec 26 keepSV 2 gSVL)
def gSV : List CA → Option Value
  | [.rows _ m g, .rows _ m2 h] => some (.bool (bif Nat.beq m m2 then sameN g h m else false))
  | _ => none
end Go.Proofs.Ytbmbnbhedalcnab
