/-
  The contract of the document's Size.
-/
import Derived.Test.YtgdlmhgjhmcilabSize
namespace Go.Proofs.Ytgdlmhgjhmcilab
open Go.RowKit Lz

end Go.Proofs.Ytgdlmhgjhmcilab
