/-
  The document's Same, a part.
-/
import Derived.Test.YtpbaacplgohniaaDoorRcVa
import Derived.Test.YtpbaacplgohniaaDoorRcVb
import Derived.Test.YtpbaacplgohniaaDoorRcVc
import Derived.Test.YtpbaacplgohniaaDoorRcVd
namespace Go.Proofs.YtpbaacplgohniaaDoor
open Go.ChangeShapes Go.WideShapes Go.ChangeAt Go.RowKit Go.Deep

theorem dsame_word (r q : Rec) (w : World) (hr : Rv w r) (hq : Rv w q) :
    Calls Tryd.prog 21 #[.agg r.cs.toArray, .agg q.cs.toArray] w fun e w' => e = .returned (.bool (sameB r q)) ∧ Below w.heap.size w w' := by
  by_cases t1 : r.seq = q.seq
  · by_cases t2 : r.epoch = q.epoch
    · by_cases t3 : r.prev = q.prev
      · by_cases t4 : r.kind = q.kind
        · by_cases t5 : r.site = q.site
          · by_cases t6 : r.path = q.path
            · by_cases t7 : r.ps.length = q.ps.length
              · exact dsame_8 r q w hr hq t1 t2 t3 t4 t5 t6 t7
              · exact dsame_7 r q w hr hq t1 t2 t3 t4 t5 t6 t7
            · exact dsame_6 r q w hr hq t1 t2 t3 t4 t5 t6
          · exact dsame_5 r q w hr hq t1 t2 t3 t4 t5
        · exact dsame_4 r q w hr hq t1 t2 t3 t4
      · exact dsame_3 r q w hr hq t1 t2 t3
    · exact dsame_2 r q w hr hq t1 t2
  · exact dsame_1 r q w hr hq t1
end Go.Proofs.YtpbaacplgohniaaDoor
