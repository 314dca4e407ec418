/-
  The contract of the statements' 'cut'.
-/
import Derived.Test.YtkipepodgmfbnaaDoorAwake
namespace Go.Proofs.YtkipepodgmfbnaaDoor
open Go.RowKit Sha

theorem cut_row (a : Option Addr) (cap : Nat) (zs : List Nat) (w : World) (hr : Rd w (.slice a zs.length cap) a cap zs) :
    Calls Tryd.prog 9 #[.slice a zs.length cap] w fun e w' => e = .returned (.slice a (zs.take 2000).length cap) ∧ w' = w := by
  have hroom := hr.room
  have hmost := hr.most
  unfold maxLen at hmost
  by_cases h : 2000 < zs.length
  · have h' : (2000 : Int) < (zs.length : Int) := by omega
    obtain ⟨b, o, rfl, _, _⟩ := hr.cells (by omega)
    have hl : (zs.take 2000).length = 2000 := by rw [List.length_take]; omega
    rw [hl]
    clear hr
    generalize zs.length = n at *
    go_enter Tryd.func9, Tryd.ntmps9
    go_wp2
    go_ret
    exact ⟨rfl, rfl⟩
  · have h' : ¬ (2000 : Int) < (zs.length : Int) := by omega
    have hl : (zs.take 2000).length = zs.length := by rw [List.length_take]; omega
    rw [hl]
    clear hr
    generalize zs.length = n at *
    go_enter Tryd.func9, Tryd.ntmps9
    go_wp2
    go_ret
    exact ⟨rfl, rfl⟩
theorem take_len (zs : List Nat) : (zs.take 2000).length ≤ 2000 := by rw [List.length_take]; omega
end Go.Proofs.YtkipepodgmfbnaaDoor
