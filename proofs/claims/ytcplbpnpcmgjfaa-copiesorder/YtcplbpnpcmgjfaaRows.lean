/-
  No cell of these rows narrows 'for every input' (looked for: loops, veiled, ifaces, maps, wideKeys, modest, calm, conditions, laid).
  DERIVED. THE GIVEN ROWS OF THIS SEAT. 6 by the template 'for every input the law returns true; each argument reads behind the call as it read before'; 0 by the template 'total and deterministic' (their statements: YtcplbpnpcmgjfaaTotals.lean).
  GIVEN WITH THE SEED: the statements are not yours to turn. If you find one false, say at which input.
  Laid BY PROGRAM, IN A SANDBOX (cutbox-rows.mjs): the forced cells as the released guide's own fill.sh prints them over the translation a667f27c6eb55908… (all of the seat's roots in one cut). By AI agents, Wed Nov 11 2026. No macro, syntax, notation, axiom, sorry.
-/
import Derived.Test.YtcplbpnpcmgjfaaChecked
import GoSem.Claim
import GoSem.ClaimJoined
import GoSem.ClaimMapViews
import Derived.JoinedTies
import Derived.KernelRfl
namespace Go.Proofs.Ytcplbpnpcmgjfaa
/- THE CELL 'sum', in the pinned program and in every row, IS THE sha256 OF THE DUMP (.gsa) THAT YtcplbpnpcmgjfaaProg.lean LOADS. Nothing in Lean hashes anything: it is a label: what it is worth is what the hold of that sum in a sandbox is worth. -/
noncomputable def Try.pinned : Pinned := { name := "ytcplbpnpcmgjfaa", sum := "a667f27c6eb5590859a20d03401972d1dbdd5fa52a5c7f5eb45df2af8fe129fe", checked := Try.checked }
namespace Rows
def none {H : Type} : Left H := { results := [], args := [] }

/-- 'supercargolaw.StampTells': WHATEVER THE INPUT: true; the input reads as it did. -/
def stampTellsSpec : ChangeSpec := { name := "stampTells", fn := fun _ => fun
  | [d1, d2, d3, d4] => { results := [.lit (.bool true)], args := [d1, d2, d3, d4] }
  | _ => none }
def stampTellsRow : OpenClaim := { program := "ytcplbpnpcmgjfaa", sum := "a667f27c6eb5590859a20d03401972d1dbdd5fa52a5c7f5eb45df2af8fe129fe", func := "supercargo/supercargolaw.StampTells", spec := "stampTells", apart := false }
def StampTellsSaid : Prop := stampTellsRow.holds Try.pinned (OpenSpec.ofChange stampTellsSpec)

/-- ITS FALSE NEIGHBOUR: 'it returns false'. Refute it at one input. -/
def stampTellsWrong : ChangeSpec := { name := "stampTells", fn := fun _ => fun
  | [d1, d2, d3, d4] => { results := [.lit (.bool false)], args := [d1, d2, d3, d4] }
  | _ => none }
def StampTellsWrongFalsely : Prop := stampTellsRow.holds Try.pinned (OpenSpec.ofChange stampTellsWrong)

/-- 'supercargolaw.StampOrder': WHATEVER THE INPUT: true; the input reads as it did. -/
def stampOrderSpec : ChangeSpec := { name := "stampOrder", fn := fun _ => fun
  | [d1, d2, d3] => { results := [.lit (.bool true)], args := [d1, d2, d3] }
  | _ => none }
def stampOrderRow : OpenClaim := { program := "ytcplbpnpcmgjfaa", sum := "a667f27c6eb5590859a20d03401972d1dbdd5fa52a5c7f5eb45df2af8fe129fe", func := "supercargo/supercargolaw.StampOrder", spec := "stampOrder", apart := false }
def StampOrderSaid : Prop := stampOrderRow.holds Try.pinned (OpenSpec.ofChange stampOrderSpec)

/-- ITS FALSE NEIGHBOUR: 'it returns false'. Refute it at one input. -/
def stampOrderWrong : ChangeSpec := { name := "stampOrder", fn := fun _ => fun
  | [d1, d2, d3] => { results := [.lit (.bool false)], args := [d1, d2, d3] }
  | _ => none }
def StampOrderWrongFalsely : Prop := stampOrderRow.holds Try.pinned (OpenSpec.ofChange stampOrderWrong)

/-- 'supercargolaw.StampMax': WHATEVER THE INPUT: true; the input reads as it did. -/
def stampMaxSpec : ChangeSpec := { name := "stampMax", fn := fun _ => fun
  | [d1, d2, d3] => { results := [.lit (.bool true)], args := [d1, d2, d3] }
  | _ => none }
def stampMaxRow : OpenClaim := { program := "ytcplbpnpcmgjfaa", sum := "a667f27c6eb5590859a20d03401972d1dbdd5fa52a5c7f5eb45df2af8fe129fe", func := "supercargo/supercargolaw.StampMax", spec := "stampMax", apart := false }
def StampMaxSaid : Prop := stampMaxRow.holds Try.pinned (OpenSpec.ofChange stampMaxSpec)

/-- ITS FALSE NEIGHBOUR: 'it returns false'. Refute it at one input. -/
def stampMaxWrong : ChangeSpec := { name := "stampMax", fn := fun _ => fun
  | [d1, d2, d3] => { results := [.lit (.bool false)], args := [d1, d2, d3] }
  | _ => none }
def StampMaxWrongFalsely : Prop := stampMaxRow.holds Try.pinned (OpenSpec.ofChange stampMaxWrong)

/-- 'supercargolaw.StampNext': WHATEVER THE INPUT: true; the input reads as it did. -/
def stampNextSpec : ChangeSpec := { name := "stampNext", fn := fun _ => fun
  | [d1, d2, d3, d4] => { results := [.lit (.bool true)], args := [d1, d2, d3, d4] }
  | _ => none }
def stampNextRow : OpenClaim := { program := "ytcplbpnpcmgjfaa", sum := "a667f27c6eb5590859a20d03401972d1dbdd5fa52a5c7f5eb45df2af8fe129fe", func := "supercargo/supercargolaw.StampNext", spec := "stampNext", apart := false }
def StampNextSaid : Prop := stampNextRow.holds Try.pinned (OpenSpec.ofChange stampNextSpec)

/-- ITS FALSE NEIGHBOUR: 'it returns false'. Refute it at one input. -/
def stampNextWrong : ChangeSpec := { name := "stampNext", fn := fun _ => fun
  | [d1, d2, d3, d4] => { results := [.lit (.bool false)], args := [d1, d2, d3, d4] }
  | _ => none }
def StampNextWrongFalsely : Prop := stampNextRow.holds Try.pinned (OpenSpec.ofChange stampNextWrong)

/-- 'supercargolaw.CopiesTell': WHATEVER THE INPUT: true; the input reads as it did. -/
def copiesTellSpec : ChangeSpec := { name := "copiesTell", fn := fun _ => fun
  | [d1, d2, d3] => { results := [.lit (.bool true)], args := [d1, d2, d3] }
  | _ => none }
def copiesTellRow : OpenClaim := { program := "ytcplbpnpcmgjfaa", sum := "a667f27c6eb5590859a20d03401972d1dbdd5fa52a5c7f5eb45df2af8fe129fe", func := "supercargo/supercargolaw.CopiesTell", spec := "copiesTell", apart := false }
def CopiesTellSaid : Prop := copiesTellRow.holds Try.pinned (OpenSpec.ofChange copiesTellSpec)

/-- ITS FALSE NEIGHBOUR: 'it returns false'. Refute it at one input. -/
def copiesTellWrong : ChangeSpec := { name := "copiesTell", fn := fun _ => fun
  | [d1, d2, d3] => { results := [.lit (.bool false)], args := [d1, d2, d3] }
  | _ => none }
def CopiesTellWrongFalsely : Prop := copiesTellRow.holds Try.pinned (OpenSpec.ofChange copiesTellWrong)

/-- 'supercargolaw.CopiesOrder': WHATEVER THE INPUT: true; the input reads as it did. -/
def copiesOrderSpec : ChangeSpec := { name := "copiesOrder", fn := fun _ => fun
  | [d1, d2, d3] => { results := [.lit (.bool true)], args := [d1, d2, d3] }
  | _ => none }
def copiesOrderRow : OpenClaim := { program := "ytcplbpnpcmgjfaa", sum := "a667f27c6eb5590859a20d03401972d1dbdd5fa52a5c7f5eb45df2af8fe129fe", func := "supercargo/supercargolaw.CopiesOrder", spec := "copiesOrder", apart := false }
def CopiesOrderSaid : Prop := copiesOrderRow.holds Try.pinned (OpenSpec.ofChange copiesOrderSpec)

/-- ITS FALSE NEIGHBOUR: 'it returns false'. Refute it at one input. -/
def copiesOrderWrong : ChangeSpec := { name := "copiesOrder", fn := fun _ => fun
  | [d1, d2, d3] => { results := [.lit (.bool false)], args := [d1, d2, d3] }
  | _ => none }
def CopiesOrderWrongFalsely : Prop := copiesOrderRow.holds Try.pinned (OpenSpec.ofChange copiesOrderWrong)

/- THE SECOND FORM. 'bulk': how many values and letters a reading holds, each counted each time it is reached (what is shared counts as often as it is met; a slice's spare places count too). A statement '..UptoSaid' is the law's where the arguments, and the package variables that the reading takes, are together of bulk at most 1048576: NARROWER than '..Said'. Prove '..Said' where nothing that the law and all that it calls make is longer than what came in: it says more and counts as full. Else prove '..UptoSaid'. A law counts once. -/
mutual
def uptoBulk {H : Type} : DataW H → Nat
  | .lit (.string bytes) => bytes.length + 1
  | .lit _ => 1
  | .nil => 1
  | .ptr d => uptoBulk d + 1
  | .slice elems spare => uptoBulkAll elems + uptoBulkAll spare + 1
  | .agg parts => uptoBulkAll parts + 1
  | .iface _ d => uptoBulk d + 1
  | .map entries => uptoBulkEntries entries + 1
  | .held _ => 1
def uptoBulkAll {H : Type} : List (DataW H) → Nat
  | [] => 0
  | d :: r => uptoBulk d + uptoBulkAll r
def uptoBulkEntries {H : Type} : List (Lit × DataW H) → Nat
  | [] => 0
  | x :: r => uptoBulkEntry x + uptoBulkEntries r
def uptoBulkEntry {H : Type} : Lit × DataW H → Nat
  | (.string bytes, d) => bytes.length + uptoBulk d + 1
  | (_, d) => uptoBulk d + 1
 end
def uptoSmall : (H : Type) → List (DataW H) → Bool := fun _ ds => decide (uptoBulkAll ds ≤ 1048576)
def OpenSpec.upto (s : _root_.Go.ChangeSpec) : _root_.Go.OpenSpec := { _root_.Go.OpenSpec.ofChange s with cond := some uptoSmall }

/-- 'supercargolaw.StampTells', WHERE WHAT IT READS IS OF BULK AT MOST 1048576: true; the input reads as it did. -/
def stampTellsUptoRow : OpenClaim := { program := "ytcplbpnpcmgjfaa", sum := "a667f27c6eb5590859a20d03401972d1dbdd5fa52a5c7f5eb45df2af8fe129fe", func := "supercargo/supercargolaw.StampTells", spec := "stampTells", apart := false, narrowed := true }
def StampTellsUptoSaid : Prop := stampTellsUptoRow.holds Try.pinned (OpenSpec.upto stampTellsSpec)

/-- 'supercargolaw.StampOrder', WHERE WHAT IT READS IS OF BULK AT MOST 1048576: true; the input reads as it did. -/
def stampOrderUptoRow : OpenClaim := { program := "ytcplbpnpcmgjfaa", sum := "a667f27c6eb5590859a20d03401972d1dbdd5fa52a5c7f5eb45df2af8fe129fe", func := "supercargo/supercargolaw.StampOrder", spec := "stampOrder", apart := false, narrowed := true }
def StampOrderUptoSaid : Prop := stampOrderUptoRow.holds Try.pinned (OpenSpec.upto stampOrderSpec)

/-- 'supercargolaw.StampMax', WHERE WHAT IT READS IS OF BULK AT MOST 1048576: true; the input reads as it did. -/
def stampMaxUptoRow : OpenClaim := { program := "ytcplbpnpcmgjfaa", sum := "a667f27c6eb5590859a20d03401972d1dbdd5fa52a5c7f5eb45df2af8fe129fe", func := "supercargo/supercargolaw.StampMax", spec := "stampMax", apart := false, narrowed := true }
def StampMaxUptoSaid : Prop := stampMaxUptoRow.holds Try.pinned (OpenSpec.upto stampMaxSpec)

/-- 'supercargolaw.StampNext', WHERE WHAT IT READS IS OF BULK AT MOST 1048576: true; the input reads as it did. -/
def stampNextUptoRow : OpenClaim := { program := "ytcplbpnpcmgjfaa", sum := "a667f27c6eb5590859a20d03401972d1dbdd5fa52a5c7f5eb45df2af8fe129fe", func := "supercargo/supercargolaw.StampNext", spec := "stampNext", apart := false, narrowed := true }
def StampNextUptoSaid : Prop := stampNextUptoRow.holds Try.pinned (OpenSpec.upto stampNextSpec)

/-- 'supercargolaw.CopiesTell', WHERE WHAT IT READS IS OF BULK AT MOST 1048576: true; the input reads as it did. -/
def copiesTellUptoRow : OpenClaim := { program := "ytcplbpnpcmgjfaa", sum := "a667f27c6eb5590859a20d03401972d1dbdd5fa52a5c7f5eb45df2af8fe129fe", func := "supercargo/supercargolaw.CopiesTell", spec := "copiesTell", apart := false, narrowed := true }
def CopiesTellUptoSaid : Prop := copiesTellUptoRow.holds Try.pinned (OpenSpec.upto copiesTellSpec)

/-- 'supercargolaw.CopiesOrder', WHERE WHAT IT READS IS OF BULK AT MOST 1048576: true; the input reads as it did. -/
def copiesOrderUptoRow : OpenClaim := { program := "ytcplbpnpcmgjfaa", sum := "a667f27c6eb5590859a20d03401972d1dbdd5fa52a5c7f5eb45df2af8fe129fe", func := "supercargo/supercargolaw.CopiesOrder", spec := "copiesOrder", apart := false, narrowed := true }
def CopiesOrderUptoSaid : Prop := copiesOrderUptoRow.holds Try.pinned (OpenSpec.upto copiesOrderSpec)

end Rows
end Go.Proofs.Ytcplbpnpcmgjfaa
