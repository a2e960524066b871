/- Votes to all nodes: what is to be shown. -/
import Derived.Test.YtbmbnbhedalcnabXk
namespace Go.Proofs.Ytbmbnbhedalcnab
open Go.RowKit
/-- votes to the first j nodes -/
def rG (c : Nat → List Value) (z : List Value) : Nat → Nat → List Value
  | 0 => fun _ => z
  | j + 1 => updG (rG c z j) j (c j)
theorem rG_at (c : Nat → List Value) (z : List Value) {i : Nat} : ∀ {j : Nat}, i < j → rG c z j i = c i
  | 0, h => by omega
  | j + 1, h => by
    show (bif Nat.beq i j then c j else rG c z j i) = c i
    by_cases e : i = j
    · subst e
      rw [show Nat.beq i i = true by rw [Nat.beq_eq]]
      rfl
    · have : Nat.beq i j = false := by
        cases e' : Nat.beq i j with
        | false => rfl
        | true => rw [Nat.beq_eq] at e'; exact absurd e' e
      rw [this]
      exact rG_at c z (by omega)
def bdC (a p : Int) (o v : ByteArray) (t w : Int) (s : ByteArray) (hd : Int) (m : Nat) (need no : Int) : List Value := [.int .i64 a, .int .i64 p, .string o, .string v, .int .i64 t, .int .i64 w, .string s, .int .u64 hd, .slice (some ⟨0, 0, some 0⟩) m m, .int .i64 need, .int .i64 no]
/-- a vote to node j -/
def toC (kd a no : Int) (d : ByteArray) (j : Nat) : List Value := vtC kd no (j : Int) a no d
def vtZ : List Value := vtC 0 0 0 0 0 ⟨#[]⟩
def keepAll : AE → List Nat
  | .normal => [1, 2, 3, 7, 14, 15, 16]
  | .exit _ => [7]
  | .ret => []
def gAllL : List Value → List AObj → (AE → List Value → List AObj → Out) → Out
  | [.int .i64 kd, .string d, .pointer (some ⟨1, 0, none⟩), .slice (some ⟨2, 0, some 0⟩) l1 c1, .slice (some ⟨2, 0, some 0⟩) l2 c2, .int .i64 n, .int .i64 i],
    [.recs sh m0 g, .cells T1 [.int .i64 a, .int .i64 p, .string o, .string v, .int .i64 t, .int .i64 w, .string s, .int .u64 hd, .slice (some ⟨0, 0, some 0⟩) l3 c3, .int .i64 need, .int .i64 no], .row e sh2 m2 G], k => (match shEq sh wtK && shEq sh2 vtK && Nat.beq e 29 with
    | true => .ask (l1 = m0 ∧ c1 = m0 ∧ l2 = m0 ∧ c2 = m0 ∧ l3 = m0 ∧ c3 = m0 ∧ m2 = m0 ∧ n = m0 ∧ i = 0 ∧ m0 ≤ 12 ∧ G = fun _ => vtZ)
        (k (.exit 0) [.slice (some ⟨2, 0, some 0⟩) m0 m0] [.recs sh m0 g, .cells T1 (bdC a p o v t w s hd m0 need no), .row e sh2 m0 (rG (toC kd a no d) vtZ m0)])
    | false => .bad)
  | _, _, _ => .bad
def lAll : Nat → Option LCon := oneL 3 (lspec 33 keepAll 3 gAllL)
end Go.Proofs.Ytbmbnbhedalcnab
