/-
  DERIVED. GIVEN WITH THE SEED: THE CARDS: each row of YtkipepodgmfbnabDoorRows.lean that lists a variable, with what it lists TIED to the program's text (the seventh form; the later family's looks); each row that meets fmt, with fmt's text TOLD by the authors' own Lean function (tested against real Go, not proved from fmt's source: count such statements apart). THE CARD IS WHAT COUNTS. Prove the row's statement (the work); the ties are given (YtkipepodgmfbnabDoorTie.lean); close each card by the builder's one call (the guide's Derived/Test/ToyasCard.lean, 'card_holds'). Laid BY PROGRAM, IN A SANDBOX (cutbox-door.mjs). By AI agents, Wed Nov 11 2026. No macro, syntax, notation, axiom, sorry.
-/
import Derived.Test.YtkipepodgmfbnabDoorRows
import GoSem.ClaimSeven
namespace Go.Proofs.YtkipepodgmfbnabDoor
namespace Rows

/-- THE TIED CARD OF 'salternlaw04.MacBack'. -/
def macBackCard : Claim7 := { stood := { row := macBackRow, standIns := [], harness := (true, "8b8df36a7bac5b940c91e262045c667b03ba079ebe8b8c15b58c5cccde6b819a"), looks := false }, kinds := [], alts := [], laidByText := true, laidKinds := [.data, .data], laidTests := true, laidLooks := .later }
def MacBackCardSaid : Prop := Claim7.holds Tryd.pinned (.plain (OpenSpec.ofChange macBackSpec)) macBackCard

/-- THE TIED CARD OF 'salternlaw04.MacNobody'. -/
def macNobodyCard : Claim7 := { stood := { row := macNobodyRow, standIns := [], harness := (true, "8b8df36a7bac5b940c91e262045c667b03ba079ebe8b8c15b58c5cccde6b819a"), looks := false }, kinds := [], alts := [], laidByText := true, laidKinds := [.data, .data], laidTests := true, laidLooks := .later }
def MacNobodyCardSaid : Prop := Claim7.holds Tryd.pinned (.plain (OpenSpec.ofChange macNobodySpec)) macNobodyCard

/-- THE SECOND FORM's CARD OF 'salternlaw04.MacBack'. -/
def macBackUptoCard : Claim7 := { stood := { row := macBackUptoRow, standIns := [], harness := (true, "8b8df36a7bac5b940c91e262045c667b03ba079ebe8b8c15b58c5cccde6b819a"), looks := false }, kinds := [], alts := [], laidByText := true, laidKinds := [.data, .data], laidTests := true, laidLooks := .later }
def MacBackUptoCardSaid : Prop := Claim7.holds Tryd.pinned (.plain (OpenSpec.upto macBackSpec)) macBackUptoCard

/-- THE SECOND FORM's CARD OF 'salternlaw04.MacNobody'. -/
def macNobodyUptoCard : Claim7 := { stood := { row := macNobodyUptoRow, standIns := [], harness := (true, "8b8df36a7bac5b940c91e262045c667b03ba079ebe8b8c15b58c5cccde6b819a"), looks := false }, kinds := [], alts := [], laidByText := true, laidKinds := [.data, .data], laidTests := true, laidLooks := .later }
def MacNobodyUptoCardSaid : Prop := Claim7.holds Tryd.pinned (.plain (OpenSpec.upto macNobodySpec)) macNobodyUptoCard
end Rows
end Go.Proofs.YtkipepodgmfbnabDoor
