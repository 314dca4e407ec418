/-
  DERIVED. GIVEN WITH THE SEED: THE CARDS: each row of YtpbaacplgohniaaDoorRows.lean that lists a variable, with what it lists TIED to the program's text (the seventh form; the later family's looks); each row that meets fmt, with fmt's text TOLD by the authors' own Lean function (tested against real Go, not proved from fmt's source: count such statements apart). THE CARD IS WHAT COUNTS. Prove the row's statement (the work); the ties are given (YtpbaacplgohniaaDoorTie.lean); close each card by the builder's one call (the guide's Derived/Test/ToyasCard.lean, 'card_holds'). Laid BY PROGRAM, IN A SANDBOX (cutbox-door.mjs). By AI agents, Wed Nov 11 2026. No macro, syntax, notation, axiom, sorry.
-/
import Derived.Test.YtpbaacplgohniaaDoorRows
import GoSem.ClaimSeven
namespace Go.Proofs.YtpbaacplgohniaaDoor
namespace Rows

/-- THE TIED CARD OF 'salternlaw13.RecordForms'. -/
def recordFormsCard : Claim7 := { stood := { row := recordFormsRow, standIns := [], harness := (true, "875b16e5fcb2ccc823f28e185639766048f68080d49968449cd66f96e9b9ab4d"), looks := true }, kinds := [], alts := [], laidByText := true, laidKinds := [.data, .data], laidTests := true, laidLooks := .later }
def RecordFormsCardSaid : Prop := Claim7.holds Tryd.pinned (.plain (OpenSpec.ofChange recordFormsSpec)) recordFormsCard

/-- THE TIED CARD OF 'salternlaw13.RecordParses'. -/
def recordParsesCard : Claim7 := { stood := { row := recordParsesRow, standIns := [], harness := (true, "875b16e5fcb2ccc823f28e185639766048f68080d49968449cd66f96e9b9ab4d"), looks := true }, kinds := [], alts := [], laidByText := true, laidKinds := [.data, .data], laidTests := true, laidLooks := .later }
def RecordParsesCardSaid : Prop := Claim7.holds Tryd.pinned (.plain (OpenSpec.ofChange recordParsesSpec)) recordParsesCard

/-- THE TIED CARD OF 'salternlaw13.RecordWalks'. -/
def recordWalksCard : Claim7 := { stood := { row := recordWalksRow, standIns := [], harness := (true, "875b16e5fcb2ccc823f28e185639766048f68080d49968449cd66f96e9b9ab4d"), looks := true }, kinds := [], alts := [], laidByText := true, laidKinds := [.data, .data], laidTests := true, laidLooks := .later }
def RecordWalksCardSaid : Prop := Claim7.holds Tryd.pinned (.plain (OpenSpec.ofChange recordWalksSpec)) recordWalksCard

/-- THE TIED CARD OF 'salternlaw13.RecordBack'. -/
def recordBackCard : Claim7 := { stood := { row := recordBackRow, standIns := [], harness := (true, "875b16e5fcb2ccc823f28e185639766048f68080d49968449cd66f96e9b9ab4d"), looks := true }, kinds := [], alts := [], laidByText := true, laidKinds := [.data, .data], laidTests := true, laidLooks := .later }
def RecordBackCardSaid : Prop := Claim7.holds Tryd.pinned (.plain (OpenSpec.ofChange recordBackSpec)) recordBackCard

/-- THE TIED CARD OF 'salternlaw13.RecordOne'. -/
def recordOneCard : Claim7 := { stood := { row := recordOneRow, standIns := [], harness := (true, "875b16e5fcb2ccc823f28e185639766048f68080d49968449cd66f96e9b9ab4d"), looks := true }, kinds := [], alts := [], laidByText := true, laidKinds := [.data, .data], laidTests := true, laidLooks := .later }
def RecordOneCardSaid : Prop := Claim7.holds Tryd.pinned (.plain (OpenSpec.ofChange recordOneSpec)) recordOneCard

/-- THE TIED CARD OF 'salternlaw13.RecordEpochs'. -/
def recordEpochsCard : Claim7 := { stood := { row := recordEpochsRow, standIns := [], harness := (true, "875b16e5fcb2ccc823f28e185639766048f68080d49968449cd66f96e9b9ab4d"), looks := true }, kinds := [], alts := [], laidByText := true, laidKinds := [.data, .data], laidTests := true, laidLooks := .later }
def RecordEpochsCardSaid : Prop := Claim7.holds Tryd.pinned (.plain (OpenSpec.ofChange recordEpochsSpec)) recordEpochsCard

/-- THE SECOND FORM's CARD OF 'salternlaw13.RecordForms'. -/
def recordFormsUptoCard : Claim7 := { stood := { row := recordFormsUptoRow, standIns := [], harness := (true, "875b16e5fcb2ccc823f28e185639766048f68080d49968449cd66f96e9b9ab4d"), looks := true }, kinds := [], alts := [], laidByText := true, laidKinds := [.data, .data], laidTests := true, laidLooks := .later }
def RecordFormsUptoCardSaid : Prop := Claim7.holds Tryd.pinned (.plain (OpenSpec.upto recordFormsSpec)) recordFormsUptoCard

/-- THE SECOND FORM's CARD OF 'salternlaw13.RecordParses'. -/
def recordParsesUptoCard : Claim7 := { stood := { row := recordParsesUptoRow, standIns := [], harness := (true, "875b16e5fcb2ccc823f28e185639766048f68080d49968449cd66f96e9b9ab4d"), looks := true }, kinds := [], alts := [], laidByText := true, laidKinds := [.data, .data], laidTests := true, laidLooks := .later }
def RecordParsesUptoCardSaid : Prop := Claim7.holds Tryd.pinned (.plain (OpenSpec.upto recordParsesSpec)) recordParsesUptoCard

/-- THE SECOND FORM's CARD OF 'salternlaw13.RecordWalks'. -/
def recordWalksUptoCard : Claim7 := { stood := { row := recordWalksUptoRow, standIns := [], harness := (true, "875b16e5fcb2ccc823f28e185639766048f68080d49968449cd66f96e9b9ab4d"), looks := true }, kinds := [], alts := [], laidByText := true, laidKinds := [.data, .data], laidTests := true, laidLooks := .later }
def RecordWalksUptoCardSaid : Prop := Claim7.holds Tryd.pinned (.plain (OpenSpec.upto recordWalksSpec)) recordWalksUptoCard

/-- THE SECOND FORM's CARD OF 'salternlaw13.RecordBack'. -/
def recordBackUptoCard : Claim7 := { stood := { row := recordBackUptoRow, standIns := [], harness := (true, "875b16e5fcb2ccc823f28e185639766048f68080d49968449cd66f96e9b9ab4d"), looks := true }, kinds := [], alts := [], laidByText := true, laidKinds := [.data, .data], laidTests := true, laidLooks := .later }
def RecordBackUptoCardSaid : Prop := Claim7.holds Tryd.pinned (.plain (OpenSpec.upto recordBackSpec)) recordBackUptoCard

/-- THE SECOND FORM's CARD OF 'salternlaw13.RecordOne'. -/
def recordOneUptoCard : Claim7 := { stood := { row := recordOneUptoRow, standIns := [], harness := (true, "875b16e5fcb2ccc823f28e185639766048f68080d49968449cd66f96e9b9ab4d"), looks := true }, kinds := [], alts := [], laidByText := true, laidKinds := [.data, .data], laidTests := true, laidLooks := .later }
def RecordOneUptoCardSaid : Prop := Claim7.holds Tryd.pinned (.plain (OpenSpec.upto recordOneSpec)) recordOneUptoCard

/-- THE SECOND FORM's CARD OF 'salternlaw13.RecordEpochs'. -/
def recordEpochsUptoCard : Claim7 := { stood := { row := recordEpochsUptoRow, standIns := [], harness := (true, "875b16e5fcb2ccc823f28e185639766048f68080d49968449cd66f96e9b9ab4d"), looks := true }, kinds := [], alts := [], laidByText := true, laidKinds := [.data, .data], laidTests := true, laidLooks := .later }
def RecordEpochsUptoCardSaid : Prop := Claim7.holds Tryd.pinned (.plain (OpenSpec.upto recordEpochsSpec)) recordEpochsUptoCard
end Rows
end Go.Proofs.YtpbaacplgohniaaDoor
