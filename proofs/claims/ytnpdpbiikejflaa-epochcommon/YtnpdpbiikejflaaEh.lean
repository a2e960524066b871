/- Turn: what is to be shown. -/
import Derived.Test.YtnpdpbiikejflaaEg
namespace Go.Proofs.Ytnpdpbiikejflaa
open Go.RowKit
def litR (L : List (List Value)) : Nat → List Value := fun j => (nthL L j).getD []
def aCl : List CA → Prop
  | [.rows _ m _] => m ≤ 64
  | _ => False
def gCl : List CA → Option (List RC)
  | [.rows _ m g] => some [.rows 25 ekK m g]
  | _ => none
noncomputable def K15 : Kn := K14.addF 21 (listF [.one (.rows ekK)] [.one .val] aCl gCl)
/-- the members of the epoch more -/
def tuX (m : Nat) (g : Nat → List Value) (n : Int) : Int := xorI (me (g (m - 1))) (shlV .u64 1 n)
def tuE (m : Nat) (g : Nat → List Value) (n : Int) : Int :=
  bif chE m g != 0 then chE m g else bif Nat.beq m 0 then 5 else bif decide (n < 0) then 3 else bif decide (n ≥ 12) then 3 else bif Nat.beq m 64 then 2 else bif tuX m g n == 0 then 8 else 0
def tuN (m : Nat) (g : Nat → List Value) (n : Int) : Nat := bif tuE m g n != 0 then 0 else m + 1
def tuG (m : Nat) (g : Nat → List Value) (n : Int) : Nat → List Value := fun j => bif Nat.beq j m then [.int .i64 (m + 1 : Nat), .int .u64 (tuX m g n)] else g j
def gTu : List CA → Option (List RC)
  | [.rows _ m g, .val (.int .i64 n)] => some [.rows 25 ekK (tuN m g n) (tuG m g n), .val (.int .i64 (tuE m g n))]
  | _ => none
noncomputable def K16 : Kn := K15.addF 8 (listF [.one (.rows ekK), vK] [.one .val, .one .val] aRow1 gTu)
noncomputable def K17 : Kn := K16.addF 11 (listF [.one (.rows ekK), vK] [.one .val, .one .val] aRow1 gTu)
end Go.Proofs.Ytnpdpbiikejflaa
