/-
  DERIVED. GIVEN WITH THE SEED: THE CARDS: each row of YtplinkmagnihmaaDoorRows.lean that lists a variable, with what it lists TIED to the program's text (the seventh form; the later family's looks); each row that meets fmt, with fmt's text TOLD by the authors' own Lean function (tested against real Go, not proved from fmt's source: count such statements apart). THE CARD IS WHAT COUNTS. Prove the row's statement (the work); the ties are given (YtplinkmagnihmaaDoorTie.lean); close each card by the builder's one call (the guide's Derived/Test/ToyasCard.lean, 'card_holds'). Laid BY PROGRAM, IN A SANDBOX (cutbox-door.mjs). By AI agents, Wed Nov 11 2026. No macro, syntax, notation, axiom, sorry.
-/
import Derived.Test.YtplinkmagnihmaaDoorRows
import GoSem.ClaimSeven
namespace Go.Proofs.YtplinkmagnihmaaDoor
namespace Rows

/-- THE TIED CARD OF 'salternlaw16.CheckHeads'. -/
def checkHeadsCard : Claim7 := { stood := { row := checkHeadsRow, standIns := [], harness := (true, "6c4824eea2cfdc05c637caf113dadd9efee948d7ff46397d3b1084f8d6b5d258"), looks := false }, kinds := [], alts := [], laidByText := true, laidKinds := [.data, .data], laidTests := true, laidLooks := .later }
def CheckHeadsCardSaid : Prop := Claim7.holds Tryd.pinned (.plain (OpenSpec.ofChange checkHeadsSpec)) checkHeadsCard

/-- THE TIED CARD OF 'salternlaw16.CheckAudits'. -/
def checkAuditsCard : Claim7 := { stood := { row := checkAuditsRow, standIns := [], harness := (true, "6c4824eea2cfdc05c637caf113dadd9efee948d7ff46397d3b1084f8d6b5d258"), looks := false }, kinds := [], alts := [], laidByText := true, laidKinds := [.data, .data], laidTests := true, laidLooks := .later }
def CheckAuditsCardSaid : Prop := Claim7.holds Tryd.pinned (.plain (OpenSpec.ofChange checkAuditsSpec)) checkAuditsCard

/-- THE TIED CARD OF 'salternlaw16.CheckSealed'. -/
def checkSealedCard : Claim7 := { stood := { row := checkSealedRow, standIns := [], harness := (true, "6c4824eea2cfdc05c637caf113dadd9efee948d7ff46397d3b1084f8d6b5d258"), looks := false }, kinds := [], alts := [], laidByText := true, laidKinds := [.data, .data], laidTests := true, laidLooks := .later }
def CheckSealedCardSaid : Prop := Claim7.holds Tryd.pinned (.plain (OpenSpec.ofChange checkSealedSpec)) checkSealedCard

/-- THE TIED CARD OF 'salternlaw16.CheckPrefix'. -/
def checkPrefixCard : Claim7 := { stood := { row := checkPrefixRow, standIns := [], harness := (true, "6c4824eea2cfdc05c637caf113dadd9efee948d7ff46397d3b1084f8d6b5d258"), looks := false }, kinds := [], alts := [], laidByText := true, laidKinds := [.data, .data], laidTests := true, laidLooks := .later }
def CheckPrefixCardSaid : Prop := Claim7.holds Tryd.pinned (.plain (OpenSpec.ofChange checkPrefixSpec)) checkPrefixCard

/-- THE TIED CARD OF 'salternlaw16.CheckForks'. -/
def checkForksCard : Claim7 := { stood := { row := checkForksRow, standIns := [], harness := (true, "6c4824eea2cfdc05c637caf113dadd9efee948d7ff46397d3b1084f8d6b5d258"), looks := false }, kinds := [], alts := [], laidByText := true, laidKinds := [.data, .data], laidTests := true, laidLooks := .later }
def CheckForksCardSaid : Prop := Claim7.holds Tryd.pinned (.plain (OpenSpec.ofChange checkForksSpec)) checkForksCard

/-- THE SECOND FORM's CARD OF 'salternlaw16.CheckHeads'. -/
def checkHeadsUptoCard : Claim7 := { stood := { row := checkHeadsUptoRow, standIns := [], harness := (true, "6c4824eea2cfdc05c637caf113dadd9efee948d7ff46397d3b1084f8d6b5d258"), looks := false }, kinds := [], alts := [], laidByText := true, laidKinds := [.data, .data], laidTests := true, laidLooks := .later }
def CheckHeadsUptoCardSaid : Prop := Claim7.holds Tryd.pinned (.plain (OpenSpec.upto checkHeadsSpec)) checkHeadsUptoCard

/-- THE SECOND FORM's CARD OF 'salternlaw16.CheckAudits'. -/
def checkAuditsUptoCard : Claim7 := { stood := { row := checkAuditsUptoRow, standIns := [], harness := (true, "6c4824eea2cfdc05c637caf113dadd9efee948d7ff46397d3b1084f8d6b5d258"), looks := false }, kinds := [], alts := [], laidByText := true, laidKinds := [.data, .data], laidTests := true, laidLooks := .later }
def CheckAuditsUptoCardSaid : Prop := Claim7.holds Tryd.pinned (.plain (OpenSpec.upto checkAuditsSpec)) checkAuditsUptoCard

/-- THE SECOND FORM's CARD OF 'salternlaw16.CheckSealed'. -/
def checkSealedUptoCard : Claim7 := { stood := { row := checkSealedUptoRow, standIns := [], harness := (true, "6c4824eea2cfdc05c637caf113dadd9efee948d7ff46397d3b1084f8d6b5d258"), looks := false }, kinds := [], alts := [], laidByText := true, laidKinds := [.data, .data], laidTests := true, laidLooks := .later }
def CheckSealedUptoCardSaid : Prop := Claim7.holds Tryd.pinned (.plain (OpenSpec.upto checkSealedSpec)) checkSealedUptoCard

/-- THE SECOND FORM's CARD OF 'salternlaw16.CheckPrefix'. -/
def checkPrefixUptoCard : Claim7 := { stood := { row := checkPrefixUptoRow, standIns := [], harness := (true, "6c4824eea2cfdc05c637caf113dadd9efee948d7ff46397d3b1084f8d6b5d258"), looks := false }, kinds := [], alts := [], laidByText := true, laidKinds := [.data, .data], laidTests := true, laidLooks := .later }
def CheckPrefixUptoCardSaid : Prop := Claim7.holds Tryd.pinned (.plain (OpenSpec.upto checkPrefixSpec)) checkPrefixUptoCard

/-- THE SECOND FORM's CARD OF 'salternlaw16.CheckForks'. -/
def checkForksUptoCard : Claim7 := { stood := { row := checkForksUptoRow, standIns := [], harness := (true, "6c4824eea2cfdc05c637caf113dadd9efee948d7ff46397d3b1084f8d6b5d258"), looks := false }, kinds := [], alts := [], laidByText := true, laidKinds := [.data, .data], laidTests := true, laidLooks := .later }
def CheckForksUptoCardSaid : Prop := Claim7.holds Tryd.pinned (.plain (OpenSpec.upto checkForksSpec)) checkForksUptoCard
end Rows
end Go.Proofs.YtplinkmagnihmaaDoor
