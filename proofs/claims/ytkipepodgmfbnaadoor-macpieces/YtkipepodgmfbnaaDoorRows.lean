/-
  NARROWER THAN 'FOR EVERY INPUT', by the rows' own cells (each row's printed sentence says how): MacSums: laid · MacSame: laid · MacSeals: laid · MacWrites: laid · MacPieces: laid · MacKeys: laid.
  DERIVED. THE GIVEN ROWS OF THIS SEAT. 6 by the template 'for every input the law returns true; each argument reads behind the call as it read before'; 0 by the template 'total and deterministic' (their statements: YtkipepodgmfbnaaDoorTotals.lean).
  GIVEN WITH THE SEED: the statements are not yours to turn. If you find one false, say at which input.
  Laid BY PROGRAM, IN A SANDBOX (cutbox-rows.mjs): the forced cells as the released guide's own fill.sh prints them over the translation de0e9e7b127afd38… (all of the seat's roots in one cut). By AI agents, Wed Nov 11 2026. No macro, syntax, notation, axiom, sorry.
-/
import Derived.Test.YtkipepodgmfbnaaDoorChecked
import GoSem.Claim
import GoSem.ClaimJoined
import GoSem.ClaimMapViews
import Derived.JoinedTies
import Derived.KernelRfl
namespace Go.Proofs.YtkipepodgmfbnaaDoor
/- THE CELL 'sum', in the pinned program and in every row, IS THE sha256 OF THE DUMP (.gsa) THAT YtkipepodgmfbnaaDoorProg.lean LOADS. Nothing in Lean hashes anything: it is a label: what it is worth is what the hold of that sum in a sandbox is worth. -/
noncomputable def Tryd.pinned : Pinned := { name := "ytkipepodgmfbnaadoor", sum := "de0e9e7b127afd386feb4338b58cdccfb79a4c23a2da5e0137649ff2ea2ed51c", checked := Tryd.checked }
namespace Rows
def none {H : Type} : Left H := { results := [], args := [] }

/- WHAT THE LISTED PACKAGE-LEVEL VARIABLES READ AS WHEN THE CALL BEGINS. Each datum BY PROGRAM (the guide's laid-datum.mjs) off the statement by which the dump's own 'gosem.cut.vars' lays the variable. In a bare row this is a premise. The card (YtkipepodgmfbnaaDoorCards.lean) ties it to the program's text. -/
def laid_saltern_sha_start {H : Type} : DataW H := .agg [.lit (.int .u32 1779033703), .lit (.int .u32 3144134277), .lit (.int .u32 1013904242), .lit (.int .u32 2773480762), .lit (.int .u32 1359893119), .lit (.int .u32 2600822924), .lit (.int .u32 528734635), .lit (.int .u32 1541459225)]
def laid_saltern_sha_constants {H : Type} : DataW H := .agg [.lit (.int .u32 1116352408), .lit (.int .u32 1899447441), .lit (.int .u32 3049323471), .lit (.int .u32 3921009573), .lit (.int .u32 961987163), .lit (.int .u32 1508970993), .lit (.int .u32 2453635748), .lit (.int .u32 2870763221), .lit (.int .u32 3624381080), .lit (.int .u32 310598401), .lit (.int .u32 607225278), .lit (.int .u32 1426881987), .lit (.int .u32 1925078388), .lit (.int .u32 2162078206), .lit (.int .u32 2614888103), .lit (.int .u32 3248222580), .lit (.int .u32 3835390401), .lit (.int .u32 4022224774), .lit (.int .u32 264347078), .lit (.int .u32 604807628), .lit (.int .u32 770255983), .lit (.int .u32 1249150122), .lit (.int .u32 1555081692), .lit (.int .u32 1996064986), .lit (.int .u32 2554220882), .lit (.int .u32 2821834349), .lit (.int .u32 2952996808), .lit (.int .u32 3210313671), .lit (.int .u32 3336571891), .lit (.int .u32 3584528711), .lit (.int .u32 113926993), .lit (.int .u32 338241895), .lit (.int .u32 666307205), .lit (.int .u32 773529912), .lit (.int .u32 1294757372), .lit (.int .u32 1396182291), .lit (.int .u32 1695183700), .lit (.int .u32 1986661051), .lit (.int .u32 2177026350), .lit (.int .u32 2456956037), .lit (.int .u32 2730485921), .lit (.int .u32 2820302411), .lit (.int .u32 3259730800), .lit (.int .u32 3345764771), .lit (.int .u32 3516065817), .lit (.int .u32 3600352804), .lit (.int .u32 4094571909), .lit (.int .u32 275423344), .lit (.int .u32 430227734), .lit (.int .u32 506948616), .lit (.int .u32 659060556), .lit (.int .u32 883997877), .lit (.int .u32 958139571), .lit (.int .u32 1322822218), .lit (.int .u32 1537002063), .lit (.int .u32 1747873779), .lit (.int .u32 1955562222), .lit (.int .u32 2024104815), .lit (.int .u32 2227730452), .lit (.int .u32 2361852424), .lit (.int .u32 2428436474), .lit (.int .u32 2756734187), .lit (.int .u32 3204031479), .lit (.int .u32 3329325298)]

/-- 'salternlaw04.MacSums': WHATEVER THE INPUT: true; the input reads as it did. -/
def macSumsSpec : ChangeSpec := { name := "macSums", fn := fun _ => fun
  | [d1, d2, d3, d4, d5] => { results := [.lit (.bool true)], args := [d1, d2, d3, d4, d5] }
  | _ => none }
def macSumsRow : OpenClaim := { program := "ytkipepodgmfbnaadoor", sum := "de0e9e7b127afd386feb4338b58cdccfb79a4c23a2da5e0137649ff2ea2ed51c", func := "saltern/salternlaw04.MacSums", spec := "macSums", named := ["saltern/sha.start", "saltern/sha.constants"], apart := false, laid := [("saltern/sha.start", laid_saltern_sha_start), ("saltern/sha.constants", laid_saltern_sha_constants)] }
def MacSumsSaid : Prop := macSumsRow.holds Tryd.pinned (OpenSpec.ofChange macSumsSpec)

/-- ITS FALSE NEIGHBOUR: 'it returns false'. Refute it at one input. -/
def macSumsWrong : ChangeSpec := { name := "macSums", fn := fun _ => fun
  | [d1, d2, d3, d4, d5] => { results := [.lit (.bool false)], args := [d1, d2, d3, d4, d5] }
  | _ => none }
def MacSumsWrongFalsely : Prop := macSumsRow.holds Tryd.pinned (OpenSpec.ofChange macSumsWrong)

/-- 'salternlaw04.MacSame': WHATEVER THE INPUT: true; the input reads as it did. -/
def macSameSpec : ChangeSpec := { name := "macSame", fn := fun _ => fun
  | [d1, d2] => { results := [.lit (.bool true)], args := [d1, d2] }
  | _ => none }
def macSameRow : OpenClaim := { program := "ytkipepodgmfbnaadoor", sum := "de0e9e7b127afd386feb4338b58cdccfb79a4c23a2da5e0137649ff2ea2ed51c", func := "saltern/salternlaw04.MacSame", spec := "macSame", named := ["saltern/sha.start", "saltern/sha.constants"], apart := false, laid := [("saltern/sha.start", laid_saltern_sha_start), ("saltern/sha.constants", laid_saltern_sha_constants)] }
def MacSameSaid : Prop := macSameRow.holds Tryd.pinned (OpenSpec.ofChange macSameSpec)

/-- ITS FALSE NEIGHBOUR: 'it returns false'. Refute it at one input. -/
def macSameWrong : ChangeSpec := { name := "macSame", fn := fun _ => fun
  | [d1, d2] => { results := [.lit (.bool false)], args := [d1, d2] }
  | _ => none }
def MacSameWrongFalsely : Prop := macSameRow.holds Tryd.pinned (OpenSpec.ofChange macSameWrong)

/-- 'salternlaw04.MacSeals': WHATEVER THE INPUT: true; the input reads as it did. -/
def macSealsSpec : ChangeSpec := { name := "macSeals", fn := fun _ => fun
  | [d1, d2] => { results := [.lit (.bool true)], args := [d1, d2] }
  | _ => none }
def macSealsRow : OpenClaim := { program := "ytkipepodgmfbnaadoor", sum := "de0e9e7b127afd386feb4338b58cdccfb79a4c23a2da5e0137649ff2ea2ed51c", func := "saltern/salternlaw04.MacSeals", spec := "macSeals", named := ["saltern/sha.start", "saltern/sha.constants"], apart := false, laid := [("saltern/sha.start", laid_saltern_sha_start), ("saltern/sha.constants", laid_saltern_sha_constants)] }
def MacSealsSaid : Prop := macSealsRow.holds Tryd.pinned (OpenSpec.ofChange macSealsSpec)

/-- ITS FALSE NEIGHBOUR: 'it returns false'. Refute it at one input. -/
def macSealsWrong : ChangeSpec := { name := "macSeals", fn := fun _ => fun
  | [d1, d2] => { results := [.lit (.bool false)], args := [d1, d2] }
  | _ => none }
def MacSealsWrongFalsely : Prop := macSealsRow.holds Tryd.pinned (OpenSpec.ofChange macSealsWrong)

/-- 'salternlaw04.MacWrites': WHATEVER THE INPUT: true; the input reads as it did. -/
def macWritesSpec : ChangeSpec := { name := "macWrites", fn := fun _ => fun
  | [d1, d2] => { results := [.lit (.bool true)], args := [d1, d2] }
  | _ => none }
def macWritesRow : OpenClaim := { program := "ytkipepodgmfbnaadoor", sum := "de0e9e7b127afd386feb4338b58cdccfb79a4c23a2da5e0137649ff2ea2ed51c", func := "saltern/salternlaw04.MacWrites", spec := "macWrites", named := ["saltern/sha.start", "saltern/sha.constants"], apart := false, laid := [("saltern/sha.start", laid_saltern_sha_start), ("saltern/sha.constants", laid_saltern_sha_constants)] }
def MacWritesSaid : Prop := macWritesRow.holds Tryd.pinned (OpenSpec.ofChange macWritesSpec)

/-- ITS FALSE NEIGHBOUR: 'it returns false'. Refute it at one input. -/
def macWritesWrong : ChangeSpec := { name := "macWrites", fn := fun _ => fun
  | [d1, d2] => { results := [.lit (.bool false)], args := [d1, d2] }
  | _ => none }
def MacWritesWrongFalsely : Prop := macWritesRow.holds Tryd.pinned (OpenSpec.ofChange macWritesWrong)

/-- 'salternlaw04.MacPieces': WHATEVER THE INPUT: true; the input reads as it did. -/
def macPiecesSpec : ChangeSpec := { name := "macPieces", fn := fun _ => fun
  | [d1, d2, d3] => { results := [.lit (.bool true)], args := [d1, d2, d3] }
  | _ => none }
def macPiecesRow : OpenClaim := { program := "ytkipepodgmfbnaadoor", sum := "de0e9e7b127afd386feb4338b58cdccfb79a4c23a2da5e0137649ff2ea2ed51c", func := "saltern/salternlaw04.MacPieces", spec := "macPieces", named := ["saltern/sha.start", "saltern/sha.constants"], apart := false, laid := [("saltern/sha.start", laid_saltern_sha_start), ("saltern/sha.constants", laid_saltern_sha_constants)] }
def MacPiecesSaid : Prop := macPiecesRow.holds Tryd.pinned (OpenSpec.ofChange macPiecesSpec)

/-- ITS FALSE NEIGHBOUR: 'it returns false'. Refute it at one input. -/
def macPiecesWrong : ChangeSpec := { name := "macPieces", fn := fun _ => fun
  | [d1, d2, d3] => { results := [.lit (.bool false)], args := [d1, d2, d3] }
  | _ => none }
def MacPiecesWrongFalsely : Prop := macPiecesRow.holds Tryd.pinned (OpenSpec.ofChange macPiecesWrong)

/-- 'salternlaw04.MacKeys': WHATEVER THE INPUT: true; the input reads as it did. -/
def macKeysSpec : ChangeSpec := { name := "macKeys", fn := fun _ => fun
  | [d1, d2] => { results := [.lit (.bool true)], args := [d1, d2] }
  | _ => none }
def macKeysRow : OpenClaim := { program := "ytkipepodgmfbnaadoor", sum := "de0e9e7b127afd386feb4338b58cdccfb79a4c23a2da5e0137649ff2ea2ed51c", func := "saltern/salternlaw04.MacKeys", spec := "macKeys", named := ["saltern/sha.start", "saltern/sha.constants"], apart := false, laid := [("saltern/sha.start", laid_saltern_sha_start), ("saltern/sha.constants", laid_saltern_sha_constants)] }
def MacKeysSaid : Prop := macKeysRow.holds Tryd.pinned (OpenSpec.ofChange macKeysSpec)

/-- ITS FALSE NEIGHBOUR: 'it returns false'. Refute it at one input. -/
def macKeysWrong : ChangeSpec := { name := "macKeys", fn := fun _ => fun
  | [d1, d2] => { results := [.lit (.bool false)], args := [d1, d2] }
  | _ => none }
def MacKeysWrongFalsely : Prop := macKeysRow.holds Tryd.pinned (OpenSpec.ofChange macKeysWrong)

/- THE SECOND FORM. 'bulk': how many values and letters a reading holds, each counted each time it is reached (what is shared counts as often as it is met; a slice's spare places count too). A statement '..UptoSaid' is the law's where the arguments, and the package variables that the reading takes, are together of bulk at most 1048576: NARROWER than '..Said'. Prove '..Said' where nothing that the law and all that it calls make is longer than what came in: it says more and counts as full. Else prove '..UptoSaid'. A law counts once. -/
mutual
def uptoBulk {H : Type} : DataW H → Nat
  | .lit (.string bytes) => bytes.length + 1
  | .lit _ => 1
  | .nil => 1
  | .ptr d => uptoBulk d + 1
  | .slice elems spare => uptoBulkAll elems + uptoBulkAll spare + 1
  | .agg parts => uptoBulkAll parts + 1
  | .iface _ d => uptoBulk d + 1
  | .map entries => uptoBulkEntries entries + 1
  | .held _ => 1
def uptoBulkAll {H : Type} : List (DataW H) → Nat
  | [] => 0
  | d :: r => uptoBulk d + uptoBulkAll r
def uptoBulkEntries {H : Type} : List (Lit × DataW H) → Nat
  | [] => 0
  | x :: r => uptoBulkEntry x + uptoBulkEntries r
def uptoBulkEntry {H : Type} : Lit × DataW H → Nat
  | (.string bytes, d) => bytes.length + uptoBulk d + 1
  | (_, d) => uptoBulk d + 1
 end
def uptoSmall : (H : Type) → List (DataW H) → Bool := fun _ ds => decide (uptoBulkAll ds ≤ 1048576)
def OpenSpec.upto (s : _root_.Go.ChangeSpec) : _root_.Go.OpenSpec := { _root_.Go.OpenSpec.ofChange s with cond := some uptoSmall }

/-- 'salternlaw04.MacSums', WHERE WHAT IT READS IS OF BULK AT MOST 1048576: true; the input reads as it did. -/
def macSumsUptoRow : OpenClaim := { program := "ytkipepodgmfbnaadoor", sum := "de0e9e7b127afd386feb4338b58cdccfb79a4c23a2da5e0137649ff2ea2ed51c", func := "saltern/salternlaw04.MacSums", spec := "macSums", named := ["saltern/sha.start", "saltern/sha.constants"], apart := false, laid := [("saltern/sha.start", laid_saltern_sha_start), ("saltern/sha.constants", laid_saltern_sha_constants)], narrowed := true }
def MacSumsUptoSaid : Prop := macSumsUptoRow.holds Tryd.pinned (OpenSpec.upto macSumsSpec)

/-- 'salternlaw04.MacSame', WHERE WHAT IT READS IS OF BULK AT MOST 1048576: true; the input reads as it did. -/
def macSameUptoRow : OpenClaim := { program := "ytkipepodgmfbnaadoor", sum := "de0e9e7b127afd386feb4338b58cdccfb79a4c23a2da5e0137649ff2ea2ed51c", func := "saltern/salternlaw04.MacSame", spec := "macSame", named := ["saltern/sha.start", "saltern/sha.constants"], apart := false, laid := [("saltern/sha.start", laid_saltern_sha_start), ("saltern/sha.constants", laid_saltern_sha_constants)], narrowed := true }
def MacSameUptoSaid : Prop := macSameUptoRow.holds Tryd.pinned (OpenSpec.upto macSameSpec)

/-- 'salternlaw04.MacSeals', WHERE WHAT IT READS IS OF BULK AT MOST 1048576: true; the input reads as it did. -/
def macSealsUptoRow : OpenClaim := { program := "ytkipepodgmfbnaadoor", sum := "de0e9e7b127afd386feb4338b58cdccfb79a4c23a2da5e0137649ff2ea2ed51c", func := "saltern/salternlaw04.MacSeals", spec := "macSeals", named := ["saltern/sha.start", "saltern/sha.constants"], apart := false, laid := [("saltern/sha.start", laid_saltern_sha_start), ("saltern/sha.constants", laid_saltern_sha_constants)], narrowed := true }
def MacSealsUptoSaid : Prop := macSealsUptoRow.holds Tryd.pinned (OpenSpec.upto macSealsSpec)

/-- 'salternlaw04.MacWrites', WHERE WHAT IT READS IS OF BULK AT MOST 1048576: true; the input reads as it did. -/
def macWritesUptoRow : OpenClaim := { program := "ytkipepodgmfbnaadoor", sum := "de0e9e7b127afd386feb4338b58cdccfb79a4c23a2da5e0137649ff2ea2ed51c", func := "saltern/salternlaw04.MacWrites", spec := "macWrites", named := ["saltern/sha.start", "saltern/sha.constants"], apart := false, laid := [("saltern/sha.start", laid_saltern_sha_start), ("saltern/sha.constants", laid_saltern_sha_constants)], narrowed := true }
def MacWritesUptoSaid : Prop := macWritesUptoRow.holds Tryd.pinned (OpenSpec.upto macWritesSpec)

/-- 'salternlaw04.MacPieces', WHERE WHAT IT READS IS OF BULK AT MOST 1048576: true; the input reads as it did. -/
def macPiecesUptoRow : OpenClaim := { program := "ytkipepodgmfbnaadoor", sum := "de0e9e7b127afd386feb4338b58cdccfb79a4c23a2da5e0137649ff2ea2ed51c", func := "saltern/salternlaw04.MacPieces", spec := "macPieces", named := ["saltern/sha.start", "saltern/sha.constants"], apart := false, laid := [("saltern/sha.start", laid_saltern_sha_start), ("saltern/sha.constants", laid_saltern_sha_constants)], narrowed := true }
def MacPiecesUptoSaid : Prop := macPiecesUptoRow.holds Tryd.pinned (OpenSpec.upto macPiecesSpec)

/-- 'salternlaw04.MacKeys', WHERE WHAT IT READS IS OF BULK AT MOST 1048576: true; the input reads as it did. -/
def macKeysUptoRow : OpenClaim := { program := "ytkipepodgmfbnaadoor", sum := "de0e9e7b127afd386feb4338b58cdccfb79a4c23a2da5e0137649ff2ea2ed51c", func := "saltern/salternlaw04.MacKeys", spec := "macKeys", named := ["saltern/sha.start", "saltern/sha.constants"], apart := false, laid := [("saltern/sha.start", laid_saltern_sha_start), ("saltern/sha.constants", laid_saltern_sha_constants)], narrowed := true }
def MacKeysUptoSaid : Prop := macKeysUptoRow.holds Tryd.pinned (OpenSpec.upto macKeysSpec)

end Rows
end Go.Proofs.YtkipepodgmfbnaaDoor
