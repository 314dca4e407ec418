/-
  DERIVED. GIVEN WITH THE SEED: THE CARDS: each row of YtgnjicpmfpgdeaaDoorRows.lean that lists a variable, with what it lists TIED to the program's text (the seventh form; the later family's looks); each row that meets fmt, with fmt's text TOLD by the authors' own Lean function (tested against real Go, not proved from fmt's source: count such statements apart). THE CARD IS WHAT COUNTS. Prove the row's statement (the work); the ties are given (YtgnjicpmfpgdeaaDoorTie.lean); close each card by the builder's one call (the guide's Derived/Test/ToyasCard.lean, 'card_holds'). Laid BY PROGRAM, IN A SANDBOX (cutbox-door.mjs). By AI agents, Wed Nov 11 2026. No macro, syntax, notation, axiom, sorry.
-/
import Derived.Test.YtgnjicpmfpgdeaaDoorRows
import GoSem.ClaimSeven
namespace Go.Proofs.YtgnjicpmfpgdeaaDoor
namespace Rows

/-- THE TIED CARD OF 'salternlaw18.FrameWrites'. -/
def frameWritesCard : Claim7 := { stood := { row := frameWritesRow, standIns := [], harness := (true, "ea9b218ad058a5205faedac6b445c46511f392673c5bacec3d2a23554936d6b6"), looks := true }, kinds := [], alts := [], laidByText := true, laidKinds := [.data, .data], laidTests := true, laidLooks := .later }
def FrameWritesCardSaid : Prop := Claim7.holds Tryd.pinned (.plain (OpenSpec.ofChange frameWritesSpec)) frameWritesCard

/-- THE TIED CARD OF 'salternlaw18.FrameReads'. -/
def frameReadsCard : Claim7 := { stood := { row := frameReadsRow, standIns := [], harness := (true, "ea9b218ad058a5205faedac6b445c46511f392673c5bacec3d2a23554936d6b6"), looks := true }, kinds := [], alts := [], laidByText := true, laidKinds := [.data, .data], laidTests := true, laidLooks := .later }
def FrameReadsCardSaid : Prop := Claim7.holds Tryd.pinned (.plain (OpenSpec.ofChange frameReadsSpec)) frameReadsCard

/-- THE TIED CARD OF 'salternlaw18.FrameSealed'. -/
def frameSealedCard : Claim7 := { stood := { row := frameSealedRow, standIns := [], harness := (true, "ea9b218ad058a5205faedac6b445c46511f392673c5bacec3d2a23554936d6b6"), looks := true }, kinds := [], alts := [], laidByText := true, laidKinds := [.data, .data], laidTests := true, laidLooks := .later }
def FrameSealedCardSaid : Prop := Claim7.holds Tryd.pinned (.plain (OpenSpec.ofChange frameSealedSpec)) frameSealedCard

/-- THE TIED CARD OF 'salternlaw18.FrameMeets'. -/
def frameMeetsCard : Claim7 := { stood := { row := frameMeetsRow, standIns := [], harness := (true, "ea9b218ad058a5205faedac6b445c46511f392673c5bacec3d2a23554936d6b6"), looks := true }, kinds := [], alts := [], laidByText := true, laidKinds := [.data, .data], laidTests := true, laidLooks := .later }
def FrameMeetsCardSaid : Prop := Claim7.holds Tryd.pinned (.plain (OpenSpec.ofChange frameMeetsSpec)) frameMeetsCard

/-- THE TIED CARD OF 'salternlaw18.FrameBack'. -/
def frameBackCard : Claim7 := { stood := { row := frameBackRow, standIns := [], harness := (true, "ea9b218ad058a5205faedac6b445c46511f392673c5bacec3d2a23554936d6b6"), looks := true }, kinds := [], alts := [], laidByText := true, laidKinds := [.data, .data], laidTests := true, laidLooks := .later }
def FrameBackCardSaid : Prop := Claim7.holds Tryd.pinned (.plain (OpenSpec.ofChange frameBackSpec)) frameBackCard

/-- THE TIED CARD OF 'salternlaw18.FrameForged'. -/
def frameForgedCard : Claim7 := { stood := { row := frameForgedRow, standIns := [], harness := (true, "ea9b218ad058a5205faedac6b445c46511f392673c5bacec3d2a23554936d6b6"), looks := true }, kinds := [], alts := [], laidByText := true, laidKinds := [.data, .data], laidTests := true, laidLooks := .later }
def FrameForgedCardSaid : Prop := Claim7.holds Tryd.pinned (.plain (OpenSpec.ofChange frameForgedSpec)) frameForgedCard

/-- THE SECOND FORM's CARD OF 'salternlaw18.FrameWrites'. -/
def frameWritesUptoCard : Claim7 := { stood := { row := frameWritesUptoRow, standIns := [], harness := (true, "ea9b218ad058a5205faedac6b445c46511f392673c5bacec3d2a23554936d6b6"), looks := true }, kinds := [], alts := [], laidByText := true, laidKinds := [.data, .data], laidTests := true, laidLooks := .later }
def FrameWritesUptoCardSaid : Prop := Claim7.holds Tryd.pinned (.plain (OpenSpec.upto frameWritesSpec)) frameWritesUptoCard

/-- THE SECOND FORM's CARD OF 'salternlaw18.FrameReads'. -/
def frameReadsUptoCard : Claim7 := { stood := { row := frameReadsUptoRow, standIns := [], harness := (true, "ea9b218ad058a5205faedac6b445c46511f392673c5bacec3d2a23554936d6b6"), looks := true }, kinds := [], alts := [], laidByText := true, laidKinds := [.data, .data], laidTests := true, laidLooks := .later }
def FrameReadsUptoCardSaid : Prop := Claim7.holds Tryd.pinned (.plain (OpenSpec.upto frameReadsSpec)) frameReadsUptoCard

/-- THE SECOND FORM's CARD OF 'salternlaw18.FrameSealed'. -/
def frameSealedUptoCard : Claim7 := { stood := { row := frameSealedUptoRow, standIns := [], harness := (true, "ea9b218ad058a5205faedac6b445c46511f392673c5bacec3d2a23554936d6b6"), looks := true }, kinds := [], alts := [], laidByText := true, laidKinds := [.data, .data], laidTests := true, laidLooks := .later }
def FrameSealedUptoCardSaid : Prop := Claim7.holds Tryd.pinned (.plain (OpenSpec.upto frameSealedSpec)) frameSealedUptoCard

/-- THE SECOND FORM's CARD OF 'salternlaw18.FrameMeets'. -/
def frameMeetsUptoCard : Claim7 := { stood := { row := frameMeetsUptoRow, standIns := [], harness := (true, "ea9b218ad058a5205faedac6b445c46511f392673c5bacec3d2a23554936d6b6"), looks := true }, kinds := [], alts := [], laidByText := true, laidKinds := [.data, .data], laidTests := true, laidLooks := .later }
def FrameMeetsUptoCardSaid : Prop := Claim7.holds Tryd.pinned (.plain (OpenSpec.upto frameMeetsSpec)) frameMeetsUptoCard

/-- THE SECOND FORM's CARD OF 'salternlaw18.FrameBack'. -/
def frameBackUptoCard : Claim7 := { stood := { row := frameBackUptoRow, standIns := [], harness := (true, "ea9b218ad058a5205faedac6b445c46511f392673c5bacec3d2a23554936d6b6"), looks := true }, kinds := [], alts := [], laidByText := true, laidKinds := [.data, .data], laidTests := true, laidLooks := .later }
def FrameBackUptoCardSaid : Prop := Claim7.holds Tryd.pinned (.plain (OpenSpec.upto frameBackSpec)) frameBackUptoCard

/-- THE SECOND FORM's CARD OF 'salternlaw18.FrameForged'. -/
def frameForgedUptoCard : Claim7 := { stood := { row := frameForgedUptoRow, standIns := [], harness := (true, "ea9b218ad058a5205faedac6b445c46511f392673c5bacec3d2a23554936d6b6"), looks := true }, kinds := [], alts := [], laidByText := true, laidKinds := [.data, .data], laidTests := true, laidLooks := .later }
def FrameForgedUptoCardSaid : Prop := Claim7.holds Tryd.pinned (.plain (OpenSpec.upto frameForgedSpec)) frameForgedUptoCard
end Rows
end Go.Proofs.YtgnjicpmfpgdeaaDoor
