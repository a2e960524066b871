/-
  No cell of these rows narrows 'for every input' (looked for: loops, veiled, ifaces, maps, wideKeys, modest, calm, conditions, laid).
  DERIVED. THE GIVEN ROWS OF THIS SEAT. 6 by the template 'for every input the law returns true; each argument reads behind the call as it read before'; 0 by the template 'total and deterministic' (their statements: YtpkckgdpdnkbeaaTotals.lean).
  GIVEN WITH THE SEED: the statements are not yours to turn. If you find one false, say at which input.
  Laid BY PROGRAM, IN A SANDBOX (cutbox-rows.mjs): the forced cells as the released guide's own fill.sh prints them over the translation 4d564e7f39485ba6… (all of the seat's roots in one cut). By AI agents, Wed Nov 11 2026. No macro, syntax, notation, axiom, sorry.
-/
import Derived.Test.YtpkckgdpdnkbeaaChecked
import GoSem.Claim
import GoSem.ClaimJoined
import GoSem.ClaimMapViews
import Derived.JoinedTies
import Derived.KernelRfl
namespace Go.Proofs.Ytpkckgdpdnkbeaa
/- THE CELL 'sum', in the pinned program and in every row, IS THE sha256 OF THE DUMP (.gsa) THAT YtpkckgdpdnkbeaaProg.lean LOADS. Nothing in Lean hashes anything: it is a label: what it is worth is what the hold of that sum in a sandbox is worth. -/
noncomputable def Try.pinned : Pinned := { name := "ytpkckgdpdnkbeaa", sum := "4d564e7f39485ba692274b6a7c84e492cb32296872d0f31d722ea45965929036", checked := Try.checked }
namespace Rows
def none {H : Type} : Left H := { results := [], args := [] }

/-- 'supercargolaw.ClusterTells': WHATEVER THE INPUT: true; the input reads as it did. -/
def clusterTellsSpec : ChangeSpec := { name := "clusterTells", fn := fun _ => fun
  | [d1, d2, d3] => { results := [.lit (.bool true)], args := [d1, d2, d3] }
  | _ => none }
def clusterTellsRow : OpenClaim := { program := "ytpkckgdpdnkbeaa", sum := "4d564e7f39485ba692274b6a7c84e492cb32296872d0f31d722ea45965929036", func := "supercargo/supercargolaw.ClusterTells", spec := "clusterTells", unfollowed := true, recurses := true, apart := false }
def ClusterTellsSaid : Prop := clusterTellsRow.holds Try.pinned (OpenSpec.ofChange clusterTellsSpec)

/-- ITS FALSE NEIGHBOUR: 'it returns false'. Refute it at one input. -/
def clusterTellsWrong : ChangeSpec := { name := "clusterTells", fn := fun _ => fun
  | [d1, d2, d3] => { results := [.lit (.bool false)], args := [d1, d2, d3] }
  | _ => none }
def ClusterTellsWrongFalsely : Prop := clusterTellsRow.holds Try.pinned (OpenSpec.ofChange clusterTellsWrong)

/-- 'supercargolaw.ClusterRuns': WHATEVER THE INPUT: true; the input reads as it did. -/
def clusterRunsSpec : ChangeSpec := { name := "clusterRuns", fn := fun _ => fun
  | [d1, d2, d3] => { results := [.lit (.bool true)], args := [d1, d2, d3] }
  | _ => none }
def clusterRunsRow : OpenClaim := { program := "ytpkckgdpdnkbeaa", sum := "4d564e7f39485ba692274b6a7c84e492cb32296872d0f31d722ea45965929036", func := "supercargo/supercargolaw.ClusterRuns", spec := "clusterRuns", unfollowed := true, recurses := true, apart := false }
def ClusterRunsSaid : Prop := clusterRunsRow.holds Try.pinned (OpenSpec.ofChange clusterRunsSpec)

/-- ITS FALSE NEIGHBOUR: 'it returns false'. Refute it at one input. -/
def clusterRunsWrong : ChangeSpec := { name := "clusterRuns", fn := fun _ => fun
  | [d1, d2, d3] => { results := [.lit (.bool false)], args := [d1, d2, d3] }
  | _ => none }
def ClusterRunsWrongFalsely : Prop := clusterRunsRow.holds Try.pinned (OpenSpec.ofChange clusterRunsWrong)

/-- 'supercargolaw.ClusterOrder': WHATEVER THE INPUT: true; the input reads as it did. -/
def clusterOrderSpec : ChangeSpec := { name := "clusterOrder", fn := fun _ => fun
  | [d1, d2, d3, d4] => { results := [.lit (.bool true)], args := [d1, d2, d3, d4] }
  | _ => none }
def clusterOrderRow : OpenClaim := { program := "ytpkckgdpdnkbeaa", sum := "4d564e7f39485ba692274b6a7c84e492cb32296872d0f31d722ea45965929036", func := "supercargo/supercargolaw.ClusterOrder", spec := "clusterOrder", unfollowed := true, recurses := true, apart := false }
def ClusterOrderSaid : Prop := clusterOrderRow.holds Try.pinned (OpenSpec.ofChange clusterOrderSpec)

/-- ITS FALSE NEIGHBOUR: 'it returns false'. Refute it at one input. -/
def clusterOrderWrong : ChangeSpec := { name := "clusterOrder", fn := fun _ => fun
  | [d1, d2, d3, d4] => { results := [.lit (.bool false)], args := [d1, d2, d3, d4] }
  | _ => none }
def ClusterOrderWrongFalsely : Prop := clusterOrderRow.holds Try.pinned (OpenSpec.ofChange clusterOrderWrong)

/-- 'supercargolaw.ClusterValues': WHATEVER THE INPUT: true; the input reads as it did. -/
def clusterValuesSpec : ChangeSpec := { name := "clusterValues", fn := fun _ => fun
  | [d1, d2, d3] => { results := [.lit (.bool true)], args := [d1, d2, d3] }
  | _ => none }
def clusterValuesRow : OpenClaim := { program := "ytpkckgdpdnkbeaa", sum := "4d564e7f39485ba692274b6a7c84e492cb32296872d0f31d722ea45965929036", func := "supercargo/supercargolaw.ClusterValues", spec := "clusterValues", unfollowed := true, recurses := true, apart := false }
def ClusterValuesSaid : Prop := clusterValuesRow.holds Try.pinned (OpenSpec.ofChange clusterValuesSpec)

/-- ITS FALSE NEIGHBOUR: 'it returns false'. Refute it at one input. -/
def clusterValuesWrong : ChangeSpec := { name := "clusterValues", fn := fun _ => fun
  | [d1, d2, d3] => { results := [.lit (.bool false)], args := [d1, d2, d3] }
  | _ => none }
def ClusterValuesWrongFalsely : Prop := clusterValuesRow.holds Try.pinned (OpenSpec.ofChange clusterValuesWrong)

/-- 'supercargolaw.ClusterUnique': WHATEVER THE INPUT: true; the input reads as it did. -/
def clusterUniqueSpec : ChangeSpec := { name := "clusterUnique", fn := fun _ => fun
  | [d1, d2, d3, d4] => { results := [.lit (.bool true)], args := [d1, d2, d3, d4] }
  | _ => none }
def clusterUniqueRow : OpenClaim := { program := "ytpkckgdpdnkbeaa", sum := "4d564e7f39485ba692274b6a7c84e492cb32296872d0f31d722ea45965929036", func := "supercargo/supercargolaw.ClusterUnique", spec := "clusterUnique", unfollowed := true, recurses := true, apart := false }
def ClusterUniqueSaid : Prop := clusterUniqueRow.holds Try.pinned (OpenSpec.ofChange clusterUniqueSpec)

/-- ITS FALSE NEIGHBOUR: 'it returns false'. Refute it at one input. -/
def clusterUniqueWrong : ChangeSpec := { name := "clusterUnique", fn := fun _ => fun
  | [d1, d2, d3, d4] => { results := [.lit (.bool false)], args := [d1, d2, d3, d4] }
  | _ => none }
def ClusterUniqueWrongFalsely : Prop := clusterUniqueRow.holds Try.pinned (OpenSpec.ofChange clusterUniqueWrong)

/-- 'supercargolaw.ClusterKept': WHATEVER THE INPUT: true; the input reads as it did. -/
def clusterKeptSpec : ChangeSpec := { name := "clusterKept", fn := fun _ => fun
  | [d1, d2, d3] => { results := [.lit (.bool true)], args := [d1, d2, d3] }
  | _ => none }
def clusterKeptRow : OpenClaim := { program := "ytpkckgdpdnkbeaa", sum := "4d564e7f39485ba692274b6a7c84e492cb32296872d0f31d722ea45965929036", func := "supercargo/supercargolaw.ClusterKept", spec := "clusterKept", unfollowed := true, recurses := true, apart := false }
def ClusterKeptSaid : Prop := clusterKeptRow.holds Try.pinned (OpenSpec.ofChange clusterKeptSpec)

/-- ITS FALSE NEIGHBOUR: 'it returns false'. Refute it at one input. -/
def clusterKeptWrong : ChangeSpec := { name := "clusterKept", fn := fun _ => fun
  | [d1, d2, d3] => { results := [.lit (.bool false)], args := [d1, d2, d3] }
  | _ => none }
def ClusterKeptWrongFalsely : Prop := clusterKeptRow.holds Try.pinned (OpenSpec.ofChange clusterKeptWrong)

/- THE SECOND FORM. 'bulk': how many values and letters a reading holds, each counted each time it is reached (what is shared counts as often as it is met; a slice's spare places count too). A statement '..UptoSaid' is the law's where the arguments, and the package variables that the reading takes, are together of bulk at most 1048576: NARROWER than '..Said'. Prove '..Said' where nothing that the law and all that it calls make is longer than what came in: it says more and counts as full. Else prove '..UptoSaid'. A law counts once. -/
mutual
def uptoBulk {H : Type} : DataW H → Nat
  | .lit (.string bytes) => bytes.length + 1
  | .lit _ => 1
  | .nil => 1
  | .ptr d => uptoBulk d + 1
  | .slice elems spare => uptoBulkAll elems + uptoBulkAll spare + 1
  | .agg parts => uptoBulkAll parts + 1
  | .iface _ d => uptoBulk d + 1
  | .map entries => uptoBulkEntries entries + 1
  | .held _ => 1
def uptoBulkAll {H : Type} : List (DataW H) → Nat
  | [] => 0
  | d :: r => uptoBulk d + uptoBulkAll r
def uptoBulkEntries {H : Type} : List (Lit × DataW H) → Nat
  | [] => 0
  | x :: r => uptoBulkEntry x + uptoBulkEntries r
def uptoBulkEntry {H : Type} : Lit × DataW H → Nat
  | (.string bytes, d) => bytes.length + uptoBulk d + 1
  | (_, d) => uptoBulk d + 1
 end
def uptoSmall : (H : Type) → List (DataW H) → Bool := fun _ ds => decide (uptoBulkAll ds ≤ 1048576)
def OpenSpec.upto (s : _root_.Go.ChangeSpec) : _root_.Go.OpenSpec := { _root_.Go.OpenSpec.ofChange s with cond := some uptoSmall }

/-- 'supercargolaw.ClusterTells', WHERE WHAT IT READS IS OF BULK AT MOST 1048576: true; the input reads as it did. -/
def clusterTellsUptoRow : OpenClaim := { program := "ytpkckgdpdnkbeaa", sum := "4d564e7f39485ba692274b6a7c84e492cb32296872d0f31d722ea45965929036", func := "supercargo/supercargolaw.ClusterTells", spec := "clusterTells", unfollowed := true, recurses := true, apart := false, narrowed := true }
def ClusterTellsUptoSaid : Prop := clusterTellsUptoRow.holds Try.pinned (OpenSpec.upto clusterTellsSpec)

/-- 'supercargolaw.ClusterRuns', WHERE WHAT IT READS IS OF BULK AT MOST 1048576: true; the input reads as it did. -/
def clusterRunsUptoRow : OpenClaim := { program := "ytpkckgdpdnkbeaa", sum := "4d564e7f39485ba692274b6a7c84e492cb32296872d0f31d722ea45965929036", func := "supercargo/supercargolaw.ClusterRuns", spec := "clusterRuns", unfollowed := true, recurses := true, apart := false, narrowed := true }
def ClusterRunsUptoSaid : Prop := clusterRunsUptoRow.holds Try.pinned (OpenSpec.upto clusterRunsSpec)

/-- 'supercargolaw.ClusterOrder', WHERE WHAT IT READS IS OF BULK AT MOST 1048576: true; the input reads as it did. -/
def clusterOrderUptoRow : OpenClaim := { program := "ytpkckgdpdnkbeaa", sum := "4d564e7f39485ba692274b6a7c84e492cb32296872d0f31d722ea45965929036", func := "supercargo/supercargolaw.ClusterOrder", spec := "clusterOrder", unfollowed := true, recurses := true, apart := false, narrowed := true }
def ClusterOrderUptoSaid : Prop := clusterOrderUptoRow.holds Try.pinned (OpenSpec.upto clusterOrderSpec)

/-- 'supercargolaw.ClusterValues', WHERE WHAT IT READS IS OF BULK AT MOST 1048576: true; the input reads as it did. -/
def clusterValuesUptoRow : OpenClaim := { program := "ytpkckgdpdnkbeaa", sum := "4d564e7f39485ba692274b6a7c84e492cb32296872d0f31d722ea45965929036", func := "supercargo/supercargolaw.ClusterValues", spec := "clusterValues", unfollowed := true, recurses := true, apart := false, narrowed := true }
def ClusterValuesUptoSaid : Prop := clusterValuesUptoRow.holds Try.pinned (OpenSpec.upto clusterValuesSpec)

/-- 'supercargolaw.ClusterUnique', WHERE WHAT IT READS IS OF BULK AT MOST 1048576: true; the input reads as it did. -/
def clusterUniqueUptoRow : OpenClaim := { program := "ytpkckgdpdnkbeaa", sum := "4d564e7f39485ba692274b6a7c84e492cb32296872d0f31d722ea45965929036", func := "supercargo/supercargolaw.ClusterUnique", spec := "clusterUnique", unfollowed := true, recurses := true, apart := false, narrowed := true }
def ClusterUniqueUptoSaid : Prop := clusterUniqueUptoRow.holds Try.pinned (OpenSpec.upto clusterUniqueSpec)

/-- 'supercargolaw.ClusterKept', WHERE WHAT IT READS IS OF BULK AT MOST 1048576: true; the input reads as it did. -/
def clusterKeptUptoRow : OpenClaim := { program := "ytpkckgdpdnkbeaa", sum := "4d564e7f39485ba692274b6a7c84e492cb32296872d0f31d722ea45965929036", func := "supercargo/supercargolaw.ClusterKept", spec := "clusterKept", unfollowed := true, recurses := true, apart := false, narrowed := true }
def ClusterKeptUptoSaid : Prop := clusterKeptUptoRow.holds Try.pinned (OpenSpec.upto clusterKeptSpec)

end Rows
end Go.Proofs.Ytpkckgdpdnkbeaa
