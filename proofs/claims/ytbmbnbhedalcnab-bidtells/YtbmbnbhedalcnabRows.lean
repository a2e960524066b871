/-
  No cell of these rows narrows 'for every input' (looked for: loops, veiled, ifaces, maps, wideKeys, modest, calm, conditions, laid).
  DERIVED. THE GIVEN ROWS OF THIS SEAT. 3 by the template 'for every input the law returns true; each argument reads behind the call as it read before'; 0 by the template 'total and deterministic' (their statements: YtbmbnbhedalcnabTotals.lean).
  GIVEN WITH THE SEED: the statements are not yours to turn. If you find one false, say at which input.
  Laid BY PROGRAM, IN A SANDBOX (cutbox-rows.mjs): the forced cells as the released guide's own fill.sh prints them over the translation 1a141be542dc6468… (all of the seat's roots in one cut). By AI agents, Wed Nov 11 2026. No macro, syntax, notation, axiom, sorry.
-/
import Derived.Test.YtbmbnbhedalcnabChecked
import GoSem.Claim
import GoSem.ClaimJoined
import GoSem.ClaimMapViews
import Derived.JoinedTies
import Derived.KernelRfl
namespace Go.Proofs.Ytbmbnbhedalcnab
/- THE CELL 'sum', in the pinned program and in every row, IS THE sha256 OF THE DUMP (.gsa) THAT YtbmbnbhedalcnabProg.lean LOADS. Nothing in Lean hashes anything: it is a label: what it is worth is what the hold of that sum in a sandbox is worth. -/
noncomputable def Try.pinned : Pinned := { name := "ytbmbnbhedalcnab", sum := "1a141be542dc6468339ed766017d4648a439e86b5e92f63201a7121c260a99c2", checked := Try.checked }
namespace Rows
def none {H : Type} : Left H := { results := [], args := [] }

/-- 'supercargolaw.SeatTells': WHATEVER THE INPUT: true; the input reads as it did. -/
def seatTellsSpec : ChangeSpec := { name := "seatTells", fn := fun _ => fun
  | [d1, d2] => { results := [.lit (.bool true)], args := [d1, d2] }
  | _ => none }
def seatTellsRow : OpenClaim := { program := "ytbmbnbhedalcnab", sum := "1a141be542dc6468339ed766017d4648a439e86b5e92f63201a7121c260a99c2", func := "supercargo/supercargolaw.SeatTells", spec := "seatTells", unfollowed := true, recurses := true, apart := false }
def SeatTellsSaid : Prop := seatTellsRow.holds Try.pinned (OpenSpec.ofChange seatTellsSpec)

/-- ITS FALSE NEIGHBOUR: 'it returns false'. Refute it at one input. -/
def seatTellsWrong : ChangeSpec := { name := "seatTells", fn := fun _ => fun
  | [d1, d2] => { results := [.lit (.bool false)], args := [d1, d2] }
  | _ => none }
def SeatTellsWrongFalsely : Prop := seatTellsRow.holds Try.pinned (OpenSpec.ofChange seatTellsWrong)

/-- 'supercargolaw.BidTells': WHATEVER THE INPUT: true; the input reads as it did. -/
def bidTellsSpec : ChangeSpec := { name := "bidTells", fn := fun _ => fun
  | [d1, d2, d3, d4] => { results := [.lit (.bool true)], args := [d1, d2, d3, d4] }
  | _ => none }
def bidTellsRow : OpenClaim := { program := "ytbmbnbhedalcnab", sum := "1a141be542dc6468339ed766017d4648a439e86b5e92f63201a7121c260a99c2", func := "supercargo/supercargolaw.BidTells", spec := "bidTells", unfollowed := true, recurses := true, apart := false }
def BidTellsSaid : Prop := bidTellsRow.holds Try.pinned (OpenSpec.ofChange bidTellsSpec)

/-- ITS FALSE NEIGHBOUR: 'it returns false'. Refute it at one input. -/
def bidTellsWrong : ChangeSpec := { name := "bidTells", fn := fun _ => fun
  | [d1, d2, d3, d4] => { results := [.lit (.bool false)], args := [d1, d2, d3, d4] }
  | _ => none }
def BidTellsWrongFalsely : Prop := bidTellsRow.holds Try.pinned (OpenSpec.ofChange bidTellsWrong)

/-- 'supercargolaw.BidGoes': WHATEVER THE INPUT: true; the input reads as it did. -/
def bidGoesSpec : ChangeSpec := { name := "bidGoes", fn := fun _ => fun
  | [d1, d2, d3, d4] => { results := [.lit (.bool true)], args := [d1, d2, d3, d4] }
  | _ => none }
def bidGoesRow : OpenClaim := { program := "ytbmbnbhedalcnab", sum := "1a141be542dc6468339ed766017d4648a439e86b5e92f63201a7121c260a99c2", func := "supercargo/supercargolaw.BidGoes", spec := "bidGoes", unfollowed := true, recurses := true, apart := false }
def BidGoesSaid : Prop := bidGoesRow.holds Try.pinned (OpenSpec.ofChange bidGoesSpec)

/-- ITS FALSE NEIGHBOUR: 'it returns false'. Refute it at one input. -/
def bidGoesWrong : ChangeSpec := { name := "bidGoes", fn := fun _ => fun
  | [d1, d2, d3, d4] => { results := [.lit (.bool false)], args := [d1, d2, d3, d4] }
  | _ => none }
def BidGoesWrongFalsely : Prop := bidGoesRow.holds Try.pinned (OpenSpec.ofChange bidGoesWrong)

/- THE SECOND FORM. 'bulk': how many values and letters a reading holds, each counted each time it is reached (what is shared counts as often as it is met; a slice's spare places count too). A statement '..UptoSaid' is the law's where the arguments, and the package variables that the reading takes, are together of bulk at most 1048576: NARROWER than '..Said'. Prove '..Said' where nothing that the law and all that it calls make is longer than what came in: it says more and counts as full. Else prove '..UptoSaid'. A law counts once. -/
mutual
def uptoBulk {H : Type} : DataW H → Nat
  | .lit (.string bytes) => bytes.length + 1
  | .lit _ => 1
  | .nil => 1
  | .ptr d => uptoBulk d + 1
  | .slice elems spare => uptoBulkAll elems + uptoBulkAll spare + 1
  | .agg parts => uptoBulkAll parts + 1
  | .iface _ d => uptoBulk d + 1
  | .map entries => uptoBulkEntries entries + 1
  | .held _ => 1
def uptoBulkAll {H : Type} : List (DataW H) → Nat
  | [] => 0
  | d :: r => uptoBulk d + uptoBulkAll r
def uptoBulkEntries {H : Type} : List (Lit × DataW H) → Nat
  | [] => 0
  | x :: r => uptoBulkEntry x + uptoBulkEntries r
def uptoBulkEntry {H : Type} : Lit × DataW H → Nat
  | (.string bytes, d) => bytes.length + uptoBulk d + 1
  | (_, d) => uptoBulk d + 1
 end
def uptoSmall : (H : Type) → List (DataW H) → Bool := fun _ ds => decide (uptoBulkAll ds ≤ 1048576)
def OpenSpec.upto (s : _root_.Go.ChangeSpec) : _root_.Go.OpenSpec := { _root_.Go.OpenSpec.ofChange s with cond := some uptoSmall }

/-- 'supercargolaw.SeatTells', WHERE WHAT IT READS IS OF BULK AT MOST 1048576: true; the input reads as it did. -/
def seatTellsUptoRow : OpenClaim := { program := "ytbmbnbhedalcnab", sum := "1a141be542dc6468339ed766017d4648a439e86b5e92f63201a7121c260a99c2", func := "supercargo/supercargolaw.SeatTells", spec := "seatTells", unfollowed := true, recurses := true, apart := false, narrowed := true }
def SeatTellsUptoSaid : Prop := seatTellsUptoRow.holds Try.pinned (OpenSpec.upto seatTellsSpec)

/-- 'supercargolaw.BidTells', WHERE WHAT IT READS IS OF BULK AT MOST 1048576: true; the input reads as it did. -/
def bidTellsUptoRow : OpenClaim := { program := "ytbmbnbhedalcnab", sum := "1a141be542dc6468339ed766017d4648a439e86b5e92f63201a7121c260a99c2", func := "supercargo/supercargolaw.BidTells", spec := "bidTells", unfollowed := true, recurses := true, apart := false, narrowed := true }
def BidTellsUptoSaid : Prop := bidTellsUptoRow.holds Try.pinned (OpenSpec.upto bidTellsSpec)

/-- 'supercargolaw.BidGoes', WHERE WHAT IT READS IS OF BULK AT MOST 1048576: true; the input reads as it did. -/
def bidGoesUptoRow : OpenClaim := { program := "ytbmbnbhedalcnab", sum := "1a141be542dc6468339ed766017d4648a439e86b5e92f63201a7121c260a99c2", func := "supercargo/supercargolaw.BidGoes", spec := "bidGoes", unfollowed := true, recurses := true, apart := false, narrowed := true }
def BidGoesUptoSaid : Prop := bidGoesUptoRow.holds Try.pinned (OpenSpec.upto bidGoesSpec)

end Rows
end Go.Proofs.Ytbmbnbhedalcnab
