/- CopiesMerge's loop: what is to be shown. -/
import Derived.Test.YtcplbpnpcmgjfabYw
import Derived.Test.YtcplbpnpcmgjfabVr
namespace Go.Proofs.Ytcplbpnpcmgjfab
open Go.RowKit
def cvCells (c : Cp) : List Value := [.int .i64 c.1.1, .int .i64 c.1.2, .string c.2]
def bl (c : Cp) : Nat → List Value := fun j => (nthL (chunk (cvCells c) 0 3 1) j).getD []
def frK (L : List Cp) (m : Cp) : Nat → Nat → List Value
  | 0 => fun _ => []
  | k + 1 => joinG k (frK L m k) (bl (ltr (L[k]?.getD cz) m))
def keepMg : AE → List Nat
  | .normal => [0, 3, 5, 6, 7]
  | .exit _ => [0, 3, 5, 6]
  | .ret => [2]
def gMg : List Value → List AObj → (AE → List Value → List AObj → Out) → Out
  | [.slice (some ⟨0, 0, none⟩) len cap, .pointer (some ⟨1, 0, none⟩), .pointer (some ⟨2, 0, none⟩), .slice none 0 0, .int .i64 i], [.recs sh n g, .cells T1 [.int .i64 a, .int .i64 b, .string s], .cells T2 [.int .i64 p, .int .i64 q, .string z]], k => (match shEq sh cpK with
    | true => .ask (i = 0 ∧ n = len ∧ 0 < len ∧ len ≤ 12 ∧ clE (cpsOf len g) = 0 ∧ ((a, b), s) = lats (cpsOf len g) ∧ ((p, q), z) = cpOf (g 0))
        (.all fun c => k (.exit 0) [.slice (some ⟨0, 0, none⟩) len cap, .pointer (some ⟨1, 0, none⟩), .pointer (some ⟨2, 0, none⟩), .slice (some ⟨3, 0, none⟩) len c] [.recs sh n g, .cells T1 [.int .i64 a, .int .i64 b, .string s], .cells T2 (cvCells (lats (cpsOf len g))), .row 25 cpK len c (frK (cpsOf len g) (lats (cpsOf len g)) len)])
    | false => .bad)
  | _, _, _ => .bad
def lMg : Nat → Option LCon := oneL 11 (lspecR 86 keepMg 3 gMg)
end Go.Proofs.Ytcplbpnpcmgjfab
