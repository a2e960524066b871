/- Messages to all nodes, lists of messages: what is to be shown. -/
import Derived.Test.YtbmbnbhedalcnaaMe
namespace Go.Proofs.Ytbmbnbhedalcnaa
open Go.RowKit
/-- messages to the first j nodes -/
def rG (c : Nat → List Value) (z : List Value) : Nat → Nat → List Value
  | 0 => fun _ => z
  | j + 1 => updG (rG c z j) j (c j)
theorem rG_at (c : Nat → List Value) (z : List Value) {i : Nat} : ∀ {j : Nat}, i < j → rG c z j i = c i
  | 0, h => by omega
  | j + 1, h => by
    show (bif Nat.beq i j then c j else rG c z j i) = c i
    by_cases e : i = j
    · subst e
      rw [show Nat.beq i i = true by rw [Nat.beq_eq]]
      rfl
    · have : Nat.beq i j = false := by
        cases e' : Nat.beq i j with
        | false => rfl
        | true => rw [Nat.beq_eq] at e'; exact absurd e' e
      rw [this]
      exact rG_at c z (by omega)
def clC (op k p : Int) (d : ByteArray) (t w : Int) (s : ByteArray) (hd : Int) (m : Nat) (need : Int) : List Value := [.int .i64 op, .int .i64 k, .int .i64 p, .string d, .int .i64 t, .int .i64 w, .string s, .int .u64 hd, .slice (some ⟨0, 0, some 0⟩) m m, .int .i64 need]
/-- a message to node j -/
def toC (kd op x y : Int) (z : ByteArray) (j : Nat) : List Value := mgC kd op (j : Int) x y z
def mgZ : List Value := mgC 0 0 0 0 0 ⟨#[]⟩
def keepAll : AE → List Nat
  | .normal => [1, 3, 5, 7, 14, 15, 16]
  | .exit _ => [7]
  | .ret => []
def gAllL : List Value → List AObj → (AE → List Value → List AObj → Out) → Out
  | [.int .i64 kd, .pointer (some ⟨1, 0, none⟩), .pointer (some ⟨2, 0, none⟩), .slice (some ⟨3, 0, some 0⟩) l1 c1, .slice (some ⟨3, 0, some 0⟩) l2 c2, .int .i64 n, .int .i64 i],
    [.recs sh m0 g, .cells T1 [.int .i64 op, .int .i64 k, .int .i64 p, .string d, .int .i64 t, .int .i64 w, .string s, .int .u64 hd, .slice (some ⟨0, 0, some 0⟩) l3 c3, .int .i64 need], .cells T2 [.int .i64 x, .int .i64 y, .string z], .row e sh2 m2 G], kk => (match shEq sh wtK && shEq sh2 msK && Nat.beq e 40 with
    | true => .ask (l1 = m0 ∧ c1 = m0 ∧ l2 = m0 ∧ c2 = m0 ∧ l3 = m0 ∧ c3 = m0 ∧ m2 = m0 ∧ n = m0 ∧ i = 0 ∧ m0 ≤ 12 ∧ G = fun _ => mgZ)
        (kk (.exit 0) [.slice (some ⟨3, 0, some 0⟩) m0 m0] [.recs sh m0 g, .cells T1 (clC op k p d t w s hd m0 need), .cells T2 [.int .i64 x, .int .i64 y, .string z], .row e sh2 m0 (rG (toC kd op x y z) mgZ m0)])
    | false => .bad)
  | _, _, _ => .bad
def lAll : Nat → Option LCon := oneL 3 (lspec 31 keepAll 4 gAllL)
abbrev clK : CK := .agg [.val, .val, .val, .val, .val, .val, .val, .val, .rows wtK, .val]
def aAll (l : List CA) : Prop :=
  match nthL l 8 with
  | some (.rows _ m _) => m ≤ 12
  | _ => False
def gAll : List CA → Option (List RC)
  | [.val (.int .i64 op), .val (.int .i64 _), .val (.int .i64 _), .val (.string _), .val (.int .i64 _), .val (.int .i64 _), .val (.string _), .val (.int .u64 _), .rows _ m _, .val (.int .i64 _), .val (.int .i64 kd), .val (.agg ⟨[.int .i64 x, .int .i64 y, .string z]⟩)] => some [.rows 40 msK m (toC kd op x y z)]
  | _ => none
/-- are the messages at place j the same? -/
def vEq (g h : Nat → List Value) (j : Nat) : Bool :=
  decide (intV (hdV (g j)) = intV (hdV (h j)) ∧ intV (hdV (tlV (g j))) = intV (hdV (tlV (h j))) ∧ intV (hdV (tlV (tlV (g j)))) = intV (hdV (tlV (tlV (h j)))) ∧ intV (hdV (tlV (tlV (tlV (g j))))) = intV (hdV (tlV (tlV (tlV (h j))))) ∧ intV (hdV (tlV (tlV (tlV (tlV (g j)))))) = intV (hdV (tlV (tlV (tlV (tlV (h j)))))) ∧ strV (hdV (tlV (tlV (tlV (tlV (tlV (g j))))))) = strV (hdV (tlV (tlV (tlV (tlV (tlV (h j))))))))
/-- are the first n the same? -/
def sameN (g h : Nat → List Value) : Nat → Bool
  | 0 => true
  | n + 1 => sameN g h n && vEq g h n
theorem sameN_at {g h : Nat → List Value} : ∀ {n j : Nat}, j < n → vEq g h j = false → sameN g h n = false
  | n + 1, j, hj, e => by
    show (sameN g h n && vEq g h n) = false
    by_cases hn : j = n
    · subst hn; rw [e, Bool.and_false]
    · rw [sameN_at (n := n) (by omega) e, Bool.false_and]
theorem vEq_refl (g : Nat → List Value) (j : Nat) : vEq g g j = true := by unfold vEq; simp
theorem sameN_refl (g : Nat → List Value) : ∀ n, sameN g g n = true
  | 0 => rfl
  | n + 1 => by show (sameN g g n && vEq g g n) = true; rw [sameN_refl g n, vEq_refl]; rfl
def keepSV : AE → List Nat
  | .normal => [0, 1, 5]
  | .exit _ => []
  | .ret => [4]
def gSVL : List Value → List AObj → (AE → List Value → List AObj → Out) → Out
  | [.slice (some ⟨0, 0, some 0⟩) l c, .slice (some ⟨1, 0, some 0⟩) l2 c2, .int .i64 i], [.recs sh m g, .recs sh2 m2 h], k => (match shEq sh msK && shEq sh2 msK with
    | true => .ask (l = m ∧ c = m ∧ l2 = m2 ∧ c2 = m2 ∧ m = m2 ∧ i = 0 ∧ m ≤ 140737488355328) (tst (sameN g h m) (k (.exit 0) [] [.recs sh m g, .recs sh2 m2 h]) (k .ret [.bool false] [.recs sh m g, .recs sh2 m2 h]))
    | false => .bad)
  | _, _, _ => .bad
def lSV : Nat → Option LCon := oneL 4 (lspec 26 keepSV 2 gSVL)
def gSV : List CA → Option Value
  | [.rows _ m g, .rows _ m2 h] => some (.bool (bif Nat.beq m m2 then sameN g h m else false))
  | _ => none
noncomputable def K18 : Kn := (K17.addF 29 (listF [clK, vK, vK] [.one .val] aAll gAll)).addQ 19 (listC [.one (.rows msK), .one (.rows msK)] gSV)
end Go.Proofs.Ytbmbnbhedalcnaa
