/-
  The contract of the statements' 'awake': it returns true where the program's tables are as they were laid.
-/
import Derived.Test.YtkipepodgmfbnaaDoorMacSumW
import Derived.Test.YtkipepodgmfbnaaDoorRefText
namespace Go.Proofs.YtkipepodgmfbnaaDoor
open Go.RowKit Sha

theorem jefe_text : (⟨(bytesU (textN (hmac [74, 101, 102, 101] [119, 104, 97, 116, 32, 100, 111, 32, 121, 97, 32, 119, 97, 110, 116, 32, 102, 111, 114, 32, 110, 111, 116, 104, 105, 110, 103, 63]))).toArray⟩ : ByteArray) = ⟨#[53, 98, 100, 99, 99, 49, 52, 54, 98, 102, 54, 48, 55, 53, 52, 101, 54, 97, 48, 52, 50, 52, 50, 54, 48, 56, 57, 53, 55, 53, 99, 55, 53, 97, 48, 48, 51, 102, 48, 56, 57, 100, 50, 55, 51, 57, 56, 51, 57, 100, 101, 99, 53, 56, 98, 57, 54, 52, 101, 99, 51, 56, 52, 51]⟩ := by
  rw [jefe]
  decide +kernel

theorem hmac_lt (key msg : List Nat) : ∀ j, (hmac key msg).getD j 0 < 256 := digest_lt _

def cA : Array Value := #[.int .u8 74, .int .u8 101, .int .u8 102, .int .u8 101]
def cB : Array Value := #[.int .u8 119, .int .u8 104, .int .u8 97, .int .u8 116, .int .u8 32, .int .u8 100, .int .u8 111, .int .u8 32, .int .u8 121, .int .u8 97, .int .u8 32, .int .u8 119, .int .u8 97, .int .u8 110, .int .u8 116, .int .u8 32]
def cC : Array Value := #[.int .u8 102, .int .u8 111, .int .u8 114, .int .u8 32, .int .u8 110, .int .u8 111, .int .u8 116, .int .u8 104, .int .u8 105, .int .u8 110, .int .u8 103, .int .u8 63]

set_option maxHeartbeats 1600000 in
set_option maxRecDepth 100000 in
theorem awake_any (w : World) (hlaid : Laid w) : Calls Tryd.prog 14 #[] w fun e w' => e = .returned (.bool true) ∧ Below w.heap.size w w' := by
  have ka := fun (w : World) => Lib.run_convert_bytes_const (P := Tryd.prog) w 22 5 cA 4 4 Tryd.underlying22 Tryd.underlying5
  have r1 := Rd.fresh w cA (4, 5) [74, 101, 102, 101] 4 _ rfl rfl (by decide) rfl (by decide)
  have b1 := bel_alloc w (.cells cA 5 (4, 5))
  have s1 : (w.alloc (.cells cA 5 (4, 5))).heap.size = w.heap.size + 1 := by simp
  generalize hw1 : w.alloc (.cells cA 5 (4, 5)) = w1 at *
  have kb := Joins.run_convert_bytes_const_at (P := Tryd.prog) w1 22 5 cB 16 16 (w.heap.size + 1) s1.symm Tryd.underlying22 Tryd.underlying5
  have r2 := Rd.fresh w1 cB (16, 17) [119, 104, 97, 116, 32, 100, 111, 32, 121, 97, 32, 119, 97, 110, 116, 32] 16 (w.heap.size + 1) s1.symm rfl (by decide) rfl (by decide)
  have b2 := bel_alloc w1 (.cells cB 5 (16, 17))
  have s2 : (w1.alloc (.cells cB 5 (16, 17))).heap.size = w.heap.size + 1 + 1 := by simp [s1]
  generalize hw2 : w1.alloc (.cells cB 5 (16, 17)) = w2 at *
  have kc := Joins.run_convert_bytes_const_at (P := Tryd.prog) w2 22 5 cC 12 12 (w.heap.size + 1 + 1) s2.symm Tryd.underlying22 Tryd.underlying5
  have r3 := Rd.fresh w2 cC (12, 13) [102, 111, 114, 32, 110, 111, 116, 104, 105, 110, 103, 63] 12 (w.heap.size + 1 + 1) s2.symm rfl (by decide) rfl (by decide)
  have b3 := bel_alloc w2 (.cells cC 5 (12, 13))
  have s3 : (w2.alloc (.cells cC 5 (12, 13))).heap.size = w.heap.size + 1 + 1 + 1 := by simp [s2]
  generalize hw3 : w2.alloc (.cells cC 5 (12, 13)) = w3 at *
  have p := Ps.two (r2.later b3) r3 (w.heap.size + 1 + 1 + 1) s3.symm
  have b4 := bel_alloc w3 (.cells #[.slice (some ⟨w.heap.size + 1, 0, none⟩) 16 16, .slice (some ⟨w.heap.size + 1 + 1, 0, none⟩) 12 12] 22)
  have hb4 := Bn (Bn (Bn b1 b2) b3) b4
  have HB := hid hb4
  have HO := hid (macSum_word _ _ [74, 101, 102, 101] _ _ _ _ (hlaid.later hb4) (r1.later (Bn (Bn b2 b3) b4)) (by decide) p (by decide) (by decide) (by decide))
  have HTX := hid (fun W : World => textr_any (hmac [74, 101, 102, 101] [119, 104, 97, 116, 32, 100, 111, 32, 121, 97, 32, 119, 97, 110, 116, 32, 102, 111, 114, 32, 110, 111, 116, 104, 105, 110, 103, 63]) W rfl (hmac_lt _ _))
  rw [jefe_text] at HTX
  subst hw3 hw2 hw1
  clear r1 b1 s1 r2 b2 s2 r3 b3 s3 p b4 hlaid hb4
  unfold cA cB cC at *
  go_enter Tryd.func14, Tryd.ntmps14
  go_wp2_with fail
  go_at_call 10
  refine HO.out.mono ?_
  rintro _ w5 ⟨rfl, hb5⟩
  have HB5 := hid (Bn HB.out hb5)
  clear hb5
  go_wp2_with fail
  go_at_call 34
  refine (HTX.out w5).mono ?_
  rintro _ w6 ⟨rfl, hb6⟩
  have HB6 := hid (Bn HB5.out hb6)
  clear hb6
  go_wp2
  go_ret
  exact ⟨rfl, HB6.out⟩
end Go.Proofs.YtkipepodgmfbnaaDoor
