/-
  The state behind an operation that has a slot.
-/
import Derived.Test.YtgnjicpmfpgdeaaDoorShOrd
namespace Go.Proofs.YtgnjicpmfpgdeaaDoor.Sh.Ord
section
variable {P : Program} {md : Region.Mode} {ops : Array Oper} {Q : Exit → Act → World → Prop} {S : World → Prop}

theorem put {d : Nat} {o : Oper} (hd : o.dst = some d) {fuel : Nat} {listed : Array Bool} {ts : Array Value} {df : List Deferred} {v : Value} {w : World}
    (h : wpAnyH P md ops Q S fuel listed ⟨ts.setIfInBounds d v, df⟩ w) : wpAnyH P md ops Q S fuel listed (Act.put ⟨ts, df⟩ o.dst v) w := by
  rw [hd]; exact h
end
end Go.Proofs.YtgnjicpmfpgdeaaDoor.Sh.Ord
