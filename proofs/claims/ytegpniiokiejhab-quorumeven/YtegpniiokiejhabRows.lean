/-
  No cell of these rows narrows 'for every input' (looked for: loops, veiled, ifaces, maps, wideKeys, modest, calm, conditions, laid).
  DERIVED. THE GIVEN ROWS OF THIS SEAT. 5 by the template 'for every input the law returns true; each argument reads behind the call as it read before'; 0 by the template 'total and deterministic' (their statements: YtegpniiokiejhabTotals.lean).
  GIVEN WITH THE SEED: the statements are not yours to turn. If you find one false, say at which input.
  Laid BY PROGRAM, IN A SANDBOX (cutbox-rows.mjs): the forced cells as the released guide's own fill.sh prints them over the translation 9651b81a820819cb… (all of the seat's roots in one cut). By AI agents, Wed Nov 11 2026. No macro, syntax, notation, axiom, sorry.
-/
import Derived.Test.YtegpniiokiejhabChecked
import GoSem.Claim
import GoSem.ClaimJoined
import GoSem.ClaimMapViews
import Derived.JoinedTies
import Derived.KernelRfl
namespace Go.Proofs.Ytegpniiokiejhab
/- THE CELL 'sum', in the pinned program and in every row, IS THE sha256 OF THE DUMP (.gsa) THAT YtegpniiokiejhabProg.lean LOADS. Nothing in Lean hashes anything: it is a label: what it is worth is what the hold of that sum in a sandbox is worth. -/
noncomputable def Try.pinned : Pinned := { name := "ytegpniiokiejhab", sum := "9651b81a820819cb21a22087815ff8a5d3f8f81f78ced1df9e1b3560ee1eac11", checked := Try.checked }
namespace Rows
def none {H : Type} : Left H := { results := [], args := [] }

/-- 'supercargolaw.QuorumShares': WHATEVER THE INPUT: true; the input reads as it did. -/
def quorumSharesSpec : ChangeSpec := { name := "quorumShares", fn := fun _ => fun
  | [d1, d2, d3, d4] => { results := [.lit (.bool true)], args := [d1, d2, d3, d4] }
  | _ => none }
def quorumSharesRow : OpenClaim := { program := "ytegpniiokiejhab", sum := "9651b81a820819cb21a22087815ff8a5d3f8f81f78ced1df9e1b3560ee1eac11", func := "supercargo/supercargolaw.QuorumShares", spec := "quorumShares", unfollowed := true, recurses := true, apart := false }
def QuorumSharesSaid : Prop := quorumSharesRow.holds Try.pinned (OpenSpec.ofChange quorumSharesSpec)

/-- ITS FALSE NEIGHBOUR: 'it returns false'. Refute it at one input. -/
def quorumSharesWrong : ChangeSpec := { name := "quorumShares", fn := fun _ => fun
  | [d1, d2, d3, d4] => { results := [.lit (.bool false)], args := [d1, d2, d3, d4] }
  | _ => none }
def QuorumSharesWrongFalsely : Prop := quorumSharesRow.holds Try.pinned (OpenSpec.ofChange quorumSharesWrong)

/-- 'supercargolaw.QuorumRises': WHATEVER THE INPUT: true; the input reads as it did. -/
def quorumRisesSpec : ChangeSpec := { name := "quorumRises", fn := fun _ => fun
  | [d1, d2, d3, d4] => { results := [.lit (.bool true)], args := [d1, d2, d3, d4] }
  | _ => none }
def quorumRisesRow : OpenClaim := { program := "ytegpniiokiejhab", sum := "9651b81a820819cb21a22087815ff8a5d3f8f81f78ced1df9e1b3560ee1eac11", func := "supercargo/supercargolaw.QuorumRises", spec := "quorumRises", unfollowed := true, recurses := true, apart := false }
def QuorumRisesSaid : Prop := quorumRisesRow.holds Try.pinned (OpenSpec.ofChange quorumRisesSpec)

/-- ITS FALSE NEIGHBOUR: 'it returns false'. Refute it at one input. -/
def quorumRisesWrong : ChangeSpec := { name := "quorumRises", fn := fun _ => fun
  | [d1, d2, d3, d4] => { results := [.lit (.bool false)], args := [d1, d2, d3, d4] }
  | _ => none }
def QuorumRisesWrongFalsely : Prop := quorumRisesRow.holds Try.pinned (OpenSpec.ofChange quorumRisesWrong)

/-- 'supercargolaw.QuorumSpare': WHATEVER THE INPUT: true; the input reads as it did. -/
def quorumSpareSpec : ChangeSpec := { name := "quorumSpare", fn := fun _ => fun
  | [d1, d2, d3] => { results := [.lit (.bool true)], args := [d1, d2, d3] }
  | _ => none }
def quorumSpareRow : OpenClaim := { program := "ytegpniiokiejhab", sum := "9651b81a820819cb21a22087815ff8a5d3f8f81f78ced1df9e1b3560ee1eac11", func := "supercargo/supercargolaw.QuorumSpare", spec := "quorumSpare", unfollowed := true, recurses := true, apart := false }
def QuorumSpareSaid : Prop := quorumSpareRow.holds Try.pinned (OpenSpec.ofChange quorumSpareSpec)

/-- ITS FALSE NEIGHBOUR: 'it returns false'. Refute it at one input. -/
def quorumSpareWrong : ChangeSpec := { name := "quorumSpare", fn := fun _ => fun
  | [d1, d2, d3] => { results := [.lit (.bool false)], args := [d1, d2, d3] }
  | _ => none }
def QuorumSpareWrongFalsely : Prop := quorumSpareRow.holds Try.pinned (OpenSpec.ofChange quorumSpareWrong)

/-- 'supercargolaw.QuorumEven': WHATEVER THE INPUT: true; the input reads as it did. -/
def quorumEvenSpec : ChangeSpec := { name := "quorumEven", fn := fun _ => fun
  | [d1, d2] => { results := [.lit (.bool true)], args := [d1, d2] }
  | _ => none }
def quorumEvenRow : OpenClaim := { program := "ytegpniiokiejhab", sum := "9651b81a820819cb21a22087815ff8a5d3f8f81f78ced1df9e1b3560ee1eac11", func := "supercargo/supercargolaw.QuorumEven", spec := "quorumEven", unfollowed := true, recurses := true, apart := false }
def QuorumEvenSaid : Prop := quorumEvenRow.holds Try.pinned (OpenSpec.ofChange quorumEvenSpec)

/-- ITS FALSE NEIGHBOUR: 'it returns false'. Refute it at one input. -/
def quorumEvenWrong : ChangeSpec := { name := "quorumEven", fn := fun _ => fun
  | [d1, d2] => { results := [.lit (.bool false)], args := [d1, d2] }
  | _ => none }
def QuorumEvenWrongFalsely : Prop := quorumEvenRow.holds Try.pinned (OpenSpec.ofChange quorumEvenWrong)

/-- 'supercargolaw.QuorumDual': WHATEVER THE INPUT: true; the input reads as it did. -/
def quorumDualSpec : ChangeSpec := { name := "quorumDual", fn := fun _ => fun
  | [d1, d2, d3] => { results := [.lit (.bool true)], args := [d1, d2, d3] }
  | _ => none }
def quorumDualRow : OpenClaim := { program := "ytegpniiokiejhab", sum := "9651b81a820819cb21a22087815ff8a5d3f8f81f78ced1df9e1b3560ee1eac11", func := "supercargo/supercargolaw.QuorumDual", spec := "quorumDual", unfollowed := true, recurses := true, apart := false }
def QuorumDualSaid : Prop := quorumDualRow.holds Try.pinned (OpenSpec.ofChange quorumDualSpec)

/-- ITS FALSE NEIGHBOUR: 'it returns false'. Refute it at one input. -/
def quorumDualWrong : ChangeSpec := { name := "quorumDual", fn := fun _ => fun
  | [d1, d2, d3] => { results := [.lit (.bool false)], args := [d1, d2, d3] }
  | _ => none }
def QuorumDualWrongFalsely : Prop := quorumDualRow.holds Try.pinned (OpenSpec.ofChange quorumDualWrong)

/- THE SECOND FORM. 'bulk': how many values and letters a reading holds, each counted each time it is reached (what is shared counts as often as it is met; a slice's spare places count too). A statement '..UptoSaid' is the law's where the arguments, and the package variables that the reading takes, are together of bulk at most 1048576: NARROWER than '..Said'. Prove '..Said' where nothing that the law and all that it calls make is longer than what came in: it says more and counts as full. Else prove '..UptoSaid'. A law counts once. -/
mutual
def uptoBulk {H : Type} : DataW H → Nat
  | .lit (.string bytes) => bytes.length + 1
  | .lit _ => 1
  | .nil => 1
  | .ptr d => uptoBulk d + 1
  | .slice elems spare => uptoBulkAll elems + uptoBulkAll spare + 1
  | .agg parts => uptoBulkAll parts + 1
  | .iface _ d => uptoBulk d + 1
  | .map entries => uptoBulkEntries entries + 1
  | .held _ => 1
def uptoBulkAll {H : Type} : List (DataW H) → Nat
  | [] => 0
  | d :: r => uptoBulk d + uptoBulkAll r
def uptoBulkEntries {H : Type} : List (Lit × DataW H) → Nat
  | [] => 0
  | x :: r => uptoBulkEntry x + uptoBulkEntries r
def uptoBulkEntry {H : Type} : Lit × DataW H → Nat
  | (.string bytes, d) => bytes.length + uptoBulk d + 1
  | (_, d) => uptoBulk d + 1
 end
def uptoSmall : (H : Type) → List (DataW H) → Bool := fun _ ds => decide (uptoBulkAll ds ≤ 1048576)
def OpenSpec.upto (s : _root_.Go.ChangeSpec) : _root_.Go.OpenSpec := { _root_.Go.OpenSpec.ofChange s with cond := some uptoSmall }

/-- 'supercargolaw.QuorumShares', WHERE WHAT IT READS IS OF BULK AT MOST 1048576: true; the input reads as it did. -/
def quorumSharesUptoRow : OpenClaim := { program := "ytegpniiokiejhab", sum := "9651b81a820819cb21a22087815ff8a5d3f8f81f78ced1df9e1b3560ee1eac11", func := "supercargo/supercargolaw.QuorumShares", spec := "quorumShares", unfollowed := true, recurses := true, apart := false, narrowed := true }
def QuorumSharesUptoSaid : Prop := quorumSharesUptoRow.holds Try.pinned (OpenSpec.upto quorumSharesSpec)

/-- 'supercargolaw.QuorumRises', WHERE WHAT IT READS IS OF BULK AT MOST 1048576: true; the input reads as it did. -/
def quorumRisesUptoRow : OpenClaim := { program := "ytegpniiokiejhab", sum := "9651b81a820819cb21a22087815ff8a5d3f8f81f78ced1df9e1b3560ee1eac11", func := "supercargo/supercargolaw.QuorumRises", spec := "quorumRises", unfollowed := true, recurses := true, apart := false, narrowed := true }
def QuorumRisesUptoSaid : Prop := quorumRisesUptoRow.holds Try.pinned (OpenSpec.upto quorumRisesSpec)

/-- 'supercargolaw.QuorumSpare', WHERE WHAT IT READS IS OF BULK AT MOST 1048576: true; the input reads as it did. -/
def quorumSpareUptoRow : OpenClaim := { program := "ytegpniiokiejhab", sum := "9651b81a820819cb21a22087815ff8a5d3f8f81f78ced1df9e1b3560ee1eac11", func := "supercargo/supercargolaw.QuorumSpare", spec := "quorumSpare", unfollowed := true, recurses := true, apart := false, narrowed := true }
def QuorumSpareUptoSaid : Prop := quorumSpareUptoRow.holds Try.pinned (OpenSpec.upto quorumSpareSpec)

/-- 'supercargolaw.QuorumEven', WHERE WHAT IT READS IS OF BULK AT MOST 1048576: true; the input reads as it did. -/
def quorumEvenUptoRow : OpenClaim := { program := "ytegpniiokiejhab", sum := "9651b81a820819cb21a22087815ff8a5d3f8f81f78ced1df9e1b3560ee1eac11", func := "supercargo/supercargolaw.QuorumEven", spec := "quorumEven", unfollowed := true, recurses := true, apart := false, narrowed := true }
def QuorumEvenUptoSaid : Prop := quorumEvenUptoRow.holds Try.pinned (OpenSpec.upto quorumEvenSpec)

/-- 'supercargolaw.QuorumDual', WHERE WHAT IT READS IS OF BULK AT MOST 1048576: true; the input reads as it did. -/
def quorumDualUptoRow : OpenClaim := { program := "ytegpniiokiejhab", sum := "9651b81a820819cb21a22087815ff8a5d3f8f81f78ced1df9e1b3560ee1eac11", func := "supercargo/supercargolaw.QuorumDual", spec := "quorumDual", unfollowed := true, recurses := true, apart := false, narrowed := true }
def QuorumDualUptoSaid : Prop := quorumDualUptoRow.holds Try.pinned (OpenSpec.upto quorumDualSpec)

end Rows
end Go.Proofs.Ytegpniiokiejhab
