/-
  No cell of these rows narrows 'for every input' (looked for: loops, veiled, ifaces, maps, wideKeys, modest, calm, conditions, laid).
  DERIVED. THE GIVEN ROWS OF THIS SEAT. 6 by the template 'for every input the law returns true; each argument reads behind the call as it read before'; 0 by the template 'total and deterministic' (their statements: YtbmbnbhedalcnaaTotals.lean).
  GIVEN WITH THE SEED: the statements are not yours to turn. If you find one false, say at which input.
  Laid BY PROGRAM, IN A SANDBOX (cutbox-rows.mjs): the forced cells as the released guide's own fill.sh prints them over the translation 6be040445a7fb3cd… (all of the seat's roots in one cut). By AI agents, Wed Nov 11 2026. No macro, syntax, notation, axiom, sorry.
-/
import Derived.Test.YtbmbnbhedalcnaaChecked
import GoSem.Claim
import GoSem.ClaimJoined
import GoSem.ClaimMapViews
import Derived.JoinedTies
import Derived.KernelRfl
namespace Go.Proofs.Ytbmbnbhedalcnaa
/- THE CELL 'sum', in the pinned program and in every row, IS THE sha256 OF THE DUMP (.gsa) THAT YtbmbnbhedalcnaaProg.lean LOADS. Nothing in Lean hashes anything: it is a label: what it is worth is what the hold of that sum in a sandbox is worth. -/
noncomputable def Try.pinned : Pinned := { name := "ytbmbnbhedalcnaa", sum := "6be040445a7fb3cdb07a300d1fe18f6d960a0dd5a2737daff6b1e32fd0286566", checked := Try.checked }
namespace Rows
def none {H : Type} : Left H := { results := [], args := [] }

/-- 'supercargolaw.StampMax': WHATEVER THE INPUT: true; the input reads as it did. -/
def stampMaxSpec : ChangeSpec := { name := "stampMax", fn := fun _ => fun
  | [d1, d2, d3] => { results := [.lit (.bool true)], args := [d1, d2, d3] }
  | _ => none }
def stampMaxRow : OpenClaim := { program := "ytbmbnbhedalcnaa", sum := "6be040445a7fb3cdb07a300d1fe18f6d960a0dd5a2737daff6b1e32fd0286566", func := "supercargo/supercargolaw.StampMax", spec := "stampMax", apart := false }
def StampMaxSaid : Prop := stampMaxRow.holds Try.pinned (OpenSpec.ofChange stampMaxSpec)

/-- ITS FALSE NEIGHBOUR: 'it returns false'. Refute it at one input. -/
def stampMaxWrong : ChangeSpec := { name := "stampMax", fn := fun _ => fun
  | [d1, d2, d3] => { results := [.lit (.bool false)], args := [d1, d2, d3] }
  | _ => none }
def StampMaxWrongFalsely : Prop := stampMaxRow.holds Try.pinned (OpenSpec.ofChange stampMaxWrong)

/-- 'supercargolaw.AskTells': WHATEVER THE INPUT: true; the input reads as it did. -/
def askTellsSpec : ChangeSpec := { name := "askTells", fn := fun _ => fun
  | [d1, d2, d3] => { results := [.lit (.bool true)], args := [d1, d2, d3] }
  | _ => none }
def askTellsRow : OpenClaim := { program := "ytbmbnbhedalcnaa", sum := "6be040445a7fb3cdb07a300d1fe18f6d960a0dd5a2737daff6b1e32fd0286566", func := "supercargo/supercargolaw.AskTells", spec := "askTells", unfollowed := true, recurses := true, apart := false }
def AskTellsSaid : Prop := askTellsRow.holds Try.pinned (OpenSpec.ofChange askTellsSpec)

/-- ITS FALSE NEIGHBOUR: 'it returns false'. Refute it at one input. -/
def askTellsWrong : ChangeSpec := { name := "askTells", fn := fun _ => fun
  | [d1, d2, d3] => { results := [.lit (.bool false)], args := [d1, d2, d3] }
  | _ => none }
def AskTellsWrongFalsely : Prop := askTellsRow.holds Try.pinned (OpenSpec.ofChange askTellsWrong)

/-- 'supercargolaw.AskServes': WHATEVER THE INPUT: true; the input reads as it did. -/
def askServesSpec : ChangeSpec := { name := "askServes", fn := fun _ => fun
  | [d1, d2] => { results := [.lit (.bool true)], args := [d1, d2] }
  | _ => none }
def askServesRow : OpenClaim := { program := "ytbmbnbhedalcnaa", sum := "6be040445a7fb3cdb07a300d1fe18f6d960a0dd5a2737daff6b1e32fd0286566", func := "supercargo/supercargolaw.AskServes", spec := "askServes", unfollowed := true, recurses := true, apart := false }
def AskServesSaid : Prop := askServesRow.holds Try.pinned (OpenSpec.ofChange askServesSpec)

/-- ITS FALSE NEIGHBOUR: 'it returns false'. Refute it at one input. -/
def askServesWrong : ChangeSpec := { name := "askServes", fn := fun _ => fun
  | [d1, d2] => { results := [.lit (.bool false)], args := [d1, d2] }
  | _ => none }
def AskServesWrongFalsely : Prop := askServesRow.holds Try.pinned (OpenSpec.ofChange askServesWrong)

/-- 'supercargolaw.AskOnce': WHATEVER THE INPUT: true; the input reads as it did. -/
def askOnceSpec : ChangeSpec := { name := "askOnce", fn := fun _ => fun
  | [d1, d2, d3] => { results := [.lit (.bool true)], args := [d1, d2, d3] }
  | _ => none }
def askOnceRow : OpenClaim := { program := "ytbmbnbhedalcnaa", sum := "6be040445a7fb3cdb07a300d1fe18f6d960a0dd5a2737daff6b1e32fd0286566", func := "supercargo/supercargolaw.AskOnce", spec := "askOnce", unfollowed := true, recurses := true, apart := false }
def AskOnceSaid : Prop := askOnceRow.holds Try.pinned (OpenSpec.ofChange askOnceSpec)

/-- ITS FALSE NEIGHBOUR: 'it returns false'. Refute it at one input. -/
def askOnceWrong : ChangeSpec := { name := "askOnce", fn := fun _ => fun
  | [d1, d2, d3] => { results := [.lit (.bool false)], args := [d1, d2, d3] }
  | _ => none }
def AskOnceWrongFalsely : Prop := askOnceRow.holds Try.pinned (OpenSpec.ofChange askOnceWrong)

/-- 'supercargolaw.AskGoes': WHATEVER THE INPUT: true; the input reads as it did. -/
def askGoesSpec : ChangeSpec := { name := "askGoes", fn := fun _ => fun
  | [d1, d2, d3] => { results := [.lit (.bool true)], args := [d1, d2, d3] }
  | _ => none }
def askGoesRow : OpenClaim := { program := "ytbmbnbhedalcnaa", sum := "6be040445a7fb3cdb07a300d1fe18f6d960a0dd5a2737daff6b1e32fd0286566", func := "supercargo/supercargolaw.AskGoes", spec := "askGoes", unfollowed := true, recurses := true, apart := false }
def AskGoesSaid : Prop := askGoesRow.holds Try.pinned (OpenSpec.ofChange askGoesSpec)

/-- ITS FALSE NEIGHBOUR: 'it returns false'. Refute it at one input. -/
def askGoesWrong : ChangeSpec := { name := "askGoes", fn := fun _ => fun
  | [d1, d2, d3] => { results := [.lit (.bool false)], args := [d1, d2, d3] }
  | _ => none }
def AskGoesWrongFalsely : Prop := askGoesRow.holds Try.pinned (OpenSpec.ofChange askGoesWrong)

/-- 'supercargolaw.AskDeaf': WHATEVER THE INPUT: true; the input reads as it did. -/
def askDeafSpec : ChangeSpec := { name := "askDeaf", fn := fun _ => fun
  | [d1, d2, d3] => { results := [.lit (.bool true)], args := [d1, d2, d3] }
  | _ => none }
def askDeafRow : OpenClaim := { program := "ytbmbnbhedalcnaa", sum := "6be040445a7fb3cdb07a300d1fe18f6d960a0dd5a2737daff6b1e32fd0286566", func := "supercargo/supercargolaw.AskDeaf", spec := "askDeaf", unfollowed := true, recurses := true, apart := false }
def AskDeafSaid : Prop := askDeafRow.holds Try.pinned (OpenSpec.ofChange askDeafSpec)

/-- ITS FALSE NEIGHBOUR: 'it returns false'. Refute it at one input. -/
def askDeafWrong : ChangeSpec := { name := "askDeaf", fn := fun _ => fun
  | [d1, d2, d3] => { results := [.lit (.bool false)], args := [d1, d2, d3] }
  | _ => none }
def AskDeafWrongFalsely : Prop := askDeafRow.holds Try.pinned (OpenSpec.ofChange askDeafWrong)

/- THE SECOND FORM. 'bulk': how many values and letters a reading holds, each counted each time it is reached (what is shared counts as often as it is met; a slice's spare places count too). A statement '..UptoSaid' is the law's where the arguments, and the package variables that the reading takes, are together of bulk at most 1048576: NARROWER than '..Said'. Prove '..Said' where nothing that the law and all that it calls make is longer than what came in: it says more and counts as full. Else prove '..UptoSaid'. A law counts once. -/
mutual
def uptoBulk {H : Type} : DataW H → Nat
  | .lit (.string bytes) => bytes.length + 1
  | .lit _ => 1
  | .nil => 1
  | .ptr d => uptoBulk d + 1
  | .slice elems spare => uptoBulkAll elems + uptoBulkAll spare + 1
  | .agg parts => uptoBulkAll parts + 1
  | .iface _ d => uptoBulk d + 1
  | .map entries => uptoBulkEntries entries + 1
  | .held _ => 1
def uptoBulkAll {H : Type} : List (DataW H) → Nat
  | [] => 0
  | d :: r => uptoBulk d + uptoBulkAll r
def uptoBulkEntries {H : Type} : List (Lit × DataW H) → Nat
  | [] => 0
  | x :: r => uptoBulkEntry x + uptoBulkEntries r
def uptoBulkEntry {H : Type} : Lit × DataW H → Nat
  | (.string bytes, d) => bytes.length + uptoBulk d + 1
  | (_, d) => uptoBulk d + 1
 end
def uptoSmall : (H : Type) → List (DataW H) → Bool := fun _ ds => decide (uptoBulkAll ds ≤ 1048576)
def OpenSpec.upto (s : _root_.Go.ChangeSpec) : _root_.Go.OpenSpec := { _root_.Go.OpenSpec.ofChange s with cond := some uptoSmall }

/-- 'supercargolaw.StampMax', WHERE WHAT IT READS IS OF BULK AT MOST 1048576: true; the input reads as it did. -/
def stampMaxUptoRow : OpenClaim := { program := "ytbmbnbhedalcnaa", sum := "6be040445a7fb3cdb07a300d1fe18f6d960a0dd5a2737daff6b1e32fd0286566", func := "supercargo/supercargolaw.StampMax", spec := "stampMax", apart := false, narrowed := true }
def StampMaxUptoSaid : Prop := stampMaxUptoRow.holds Try.pinned (OpenSpec.upto stampMaxSpec)

/-- 'supercargolaw.AskTells', WHERE WHAT IT READS IS OF BULK AT MOST 1048576: true; the input reads as it did. -/
def askTellsUptoRow : OpenClaim := { program := "ytbmbnbhedalcnaa", sum := "6be040445a7fb3cdb07a300d1fe18f6d960a0dd5a2737daff6b1e32fd0286566", func := "supercargo/supercargolaw.AskTells", spec := "askTells", unfollowed := true, recurses := true, apart := false, narrowed := true }
def AskTellsUptoSaid : Prop := askTellsUptoRow.holds Try.pinned (OpenSpec.upto askTellsSpec)

/-- 'supercargolaw.AskServes', WHERE WHAT IT READS IS OF BULK AT MOST 1048576: true; the input reads as it did. -/
def askServesUptoRow : OpenClaim := { program := "ytbmbnbhedalcnaa", sum := "6be040445a7fb3cdb07a300d1fe18f6d960a0dd5a2737daff6b1e32fd0286566", func := "supercargo/supercargolaw.AskServes", spec := "askServes", unfollowed := true, recurses := true, apart := false, narrowed := true }
def AskServesUptoSaid : Prop := askServesUptoRow.holds Try.pinned (OpenSpec.upto askServesSpec)

/-- 'supercargolaw.AskOnce', WHERE WHAT IT READS IS OF BULK AT MOST 1048576: true; the input reads as it did. -/
def askOnceUptoRow : OpenClaim := { program := "ytbmbnbhedalcnaa", sum := "6be040445a7fb3cdb07a300d1fe18f6d960a0dd5a2737daff6b1e32fd0286566", func := "supercargo/supercargolaw.AskOnce", spec := "askOnce", unfollowed := true, recurses := true, apart := false, narrowed := true }
def AskOnceUptoSaid : Prop := askOnceUptoRow.holds Try.pinned (OpenSpec.upto askOnceSpec)

/-- 'supercargolaw.AskGoes', WHERE WHAT IT READS IS OF BULK AT MOST 1048576: true; the input reads as it did. -/
def askGoesUptoRow : OpenClaim := { program := "ytbmbnbhedalcnaa", sum := "6be040445a7fb3cdb07a300d1fe18f6d960a0dd5a2737daff6b1e32fd0286566", func := "supercargo/supercargolaw.AskGoes", spec := "askGoes", unfollowed := true, recurses := true, apart := false, narrowed := true }
def AskGoesUptoSaid : Prop := askGoesUptoRow.holds Try.pinned (OpenSpec.upto askGoesSpec)

/-- 'supercargolaw.AskDeaf', WHERE WHAT IT READS IS OF BULK AT MOST 1048576: true; the input reads as it did. -/
def askDeafUptoRow : OpenClaim := { program := "ytbmbnbhedalcnaa", sum := "6be040445a7fb3cdb07a300d1fe18f6d960a0dd5a2737daff6b1e32fd0286566", func := "supercargo/supercargolaw.AskDeaf", spec := "askDeaf", unfollowed := true, recurses := true, apart := false, narrowed := true }
def AskDeafUptoSaid : Prop := askDeafUptoRow.holds Try.pinned (OpenSpec.upto askDeafSpec)

end Rows
end Go.Proofs.Ytbmbnbhedalcnaa
