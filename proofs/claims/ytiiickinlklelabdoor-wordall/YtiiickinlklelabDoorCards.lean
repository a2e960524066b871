/-
  DERIVED. GIVEN WITH THE SEED: THE CARDS: each row of YtiiickinlklelabDoorRows.lean that lists a variable, with what it lists TIED to the program's text (the seventh form; the later family's looks); each row that meets fmt, with fmt's text TOLD by the authors' own Lean function (tested against real Go, not proved from fmt's source: count such statements apart). THE CARD IS WHAT COUNTS. Prove the row's statement (the work); the ties are given (YtiiickinlklelabDoorTie.lean); close each card by the builder's one call (the guide's Derived/Test/ToyasCard.lean, 'card_holds'). Laid BY PROGRAM, IN A SANDBOX (cutbox-door.mjs). By AI agents, Wed Nov 11 2026. No macro, syntax, notation, axiom, sorry.
-/
import Derived.Test.YtiiickinlklelabDoorRows
import GoSem.ClaimSeven
namespace Go.Proofs.YtiiickinlklelabDoor
namespace Rows

/-- THE TIED CARD OF 'supercargolaw.WordMends'. -/
def wordMendsCard : Claim7 := { stood := { row := wordMendsRow, standIns := [], harness := (true, "87ebca35141552c93e93adfae79a6d263e31723d07d2413a3a2d239b54e77150"), looks := false }, kinds := [], alts := [], laidByText := true, laidKinds := [.data, .data], laidTests := true, laidLooks := .later }
def WordMendsCardSaid : Prop := Claim7.holds Tryd.pinned (.plain (OpenSpec.ofChange wordMendsSpec)) wordMendsCard

/-- THE TIED CARD OF 'supercargolaw.WordApart'. -/
def wordApartCard : Claim7 := { stood := { row := wordApartRow, standIns := [], harness := (true, "87ebca35141552c93e93adfae79a6d263e31723d07d2413a3a2d239b54e77150"), looks := false }, kinds := [], alts := [], laidByText := true, laidKinds := [.data, .data], laidTests := true, laidLooks := .later }
def WordApartCardSaid : Prop := Claim7.holds Tryd.pinned (.plain (OpenSpec.ofChange wordApartSpec)) wordApartCard

/-- THE TIED CARD OF 'supercargolaw.WordAll'. -/
def wordAllCard : Claim7 := { stood := { row := wordAllRow, standIns := [], harness := (true, "87ebca35141552c93e93adfae79a6d263e31723d07d2413a3a2d239b54e77150"), looks := false }, kinds := [], alts := [], laidByText := true, laidKinds := [.data, .data], laidTests := true, laidLooks := .later }
def WordAllCardSaid : Prop := Claim7.holds Tryd.pinned (.plain (OpenSpec.ofChange wordAllSpec)) wordAllCard

/-- THE TIED CARD OF 'supercargolaw.WordOnly'. -/
def wordOnlyCard : Claim7 := { stood := { row := wordOnlyRow, standIns := [], harness := (true, "87ebca35141552c93e93adfae79a6d263e31723d07d2413a3a2d239b54e77150"), looks := false }, kinds := [], alts := [], laidByText := true, laidKinds := [.data, .data], laidTests := true, laidLooks := .later }
def WordOnlyCardSaid : Prop := Claim7.holds Tryd.pinned (.plain (OpenSpec.ofChange wordOnlySpec)) wordOnlyCard

/-- THE SECOND FORM's CARD OF 'supercargolaw.WordMends'. -/
def wordMendsUptoCard : Claim7 := { stood := { row := wordMendsUptoRow, standIns := [], harness := (true, "87ebca35141552c93e93adfae79a6d263e31723d07d2413a3a2d239b54e77150"), looks := false }, kinds := [], alts := [], laidByText := true, laidKinds := [.data, .data], laidTests := true, laidLooks := .later }
def WordMendsUptoCardSaid : Prop := Claim7.holds Tryd.pinned (.plain (OpenSpec.upto wordMendsSpec)) wordMendsUptoCard

/-- THE SECOND FORM's CARD OF 'supercargolaw.WordApart'. -/
def wordApartUptoCard : Claim7 := { stood := { row := wordApartUptoRow, standIns := [], harness := (true, "87ebca35141552c93e93adfae79a6d263e31723d07d2413a3a2d239b54e77150"), looks := false }, kinds := [], alts := [], laidByText := true, laidKinds := [.data, .data], laidTests := true, laidLooks := .later }
def WordApartUptoCardSaid : Prop := Claim7.holds Tryd.pinned (.plain (OpenSpec.upto wordApartSpec)) wordApartUptoCard

/-- THE SECOND FORM's CARD OF 'supercargolaw.WordAll'. -/
def wordAllUptoCard : Claim7 := { stood := { row := wordAllUptoRow, standIns := [], harness := (true, "87ebca35141552c93e93adfae79a6d263e31723d07d2413a3a2d239b54e77150"), looks := false }, kinds := [], alts := [], laidByText := true, laidKinds := [.data, .data], laidTests := true, laidLooks := .later }
def WordAllUptoCardSaid : Prop := Claim7.holds Tryd.pinned (.plain (OpenSpec.upto wordAllSpec)) wordAllUptoCard

/-- THE SECOND FORM's CARD OF 'supercargolaw.WordOnly'. -/
def wordOnlyUptoCard : Claim7 := { stood := { row := wordOnlyUptoRow, standIns := [], harness := (true, "87ebca35141552c93e93adfae79a6d263e31723d07d2413a3a2d239b54e77150"), looks := false }, kinds := [], alts := [], laidByText := true, laidKinds := [.data, .data], laidTests := true, laidLooks := .later }
def WordOnlyUptoCardSaid : Prop := Claim7.holds Tryd.pinned (.plain (OpenSpec.upto wordOnlySpec)) wordOnlyUptoCard
end Rows
end Go.Proofs.YtiiickinlklelabDoor
