/-
  The Hash's sound, Write and Sum, inside a Mac.
-/
import Derived.Test.YtkipepodgmfbnaaDoorMDigest
namespace Go.Proofs.YtkipepodgmfbnaaDoor
open Go.RowKit Sha

theorem Hm.made {pre : List Value} (hp : pre.length = 64) {w : World} {g : Nat} {msg op : List Nat} (h : Hm pre w g msg op) : w.cell? ⟨g, 64, none⟩ = some (.bool true) := by
  rw [Joins.cell_of_block h.blk 64, List.getElem?_toArray]; exact mL_made hp _ _ _
theorem Hm.count {pre : List Value} (hp : pre.length = 64) {w : World} {g : Nat} {msg op : List Nat} (h : Hm pre w g msg op) : w.cell? ⟨g, 137, none⟩ = some (.int .u64 (msg.length : Int)) := by
  rw [Joins.cell_of_block h.blk 137, List.getElem?_toArray]; exact mL_n hp _ _ _ h.len

theorem soundM_word (pre : List Value) (hp : pre.length = 64) (g : Nat) (msg op : List Nat) (w : World) (hh : Hm pre w g msg op) :
    Calls Tryd.prog 51 #[.pointer (some ⟨g, 64, none⟩)] w fun e w' => e = .returned (.bool true) ∧ w' = w := by
  have c0 := hh.made hp
  clear hh
  go_enter Tryd.func51, Tryd.ntmps51
  go_wp2
  go_ret
  exact ⟨rfl, rfl⟩

set_option maxHeartbeats 800000 in
theorem writeM_word (pre : List Value) (hp : pre.length = 64) (g : Nat) (a : Option Addr) (cap : Nat) (zs msg op : List Nat) (w : World) (hlaid : Laid w) (h2 : 2 ≤ g) (hr : Rx g w (.slice a zs.length cap) a cap zs) (hh : Hm pre w g msg op) (hbd : msg.length + zs.length ≤ 1000000000) :
    Calls Tryd.prog 38 #[.pointer (some ⟨g, 64, none⟩), .slice a zs.length cap] w fun e w' => e = .returned (.int .i64 0) ∧ (∃ op', Hm pre w' g (msg ++ zs) op') ∧ w.grownBy w' (some g) := by
  have HS := hid (soundM_word pre hp g msg op w hh)
  have c73 := hh.count hp
  have HT := hid (takeM_word pre hp g a cap zs msg op w hlaid h2 hr hh (by omega))
  clear hr hh hlaid
  generalize zs.length = zn at *
  generalize msg.length = mn at *
  have hle : ¬ (1099511627776 - (mn : Int)) < (zn : Int) := by omega
  go_enter Tryd.func38, Tryd.ntmps38
  go_wp2_with fail
  go_at_call 51
  refine HS.out.mono ?_
  rintro _ w1 ⟨rfl, hw⟩
  obtain rfl := hw.symm
  clear hw
  go_wp2_with fail
  go_at_call 41
  refine HT.out.mono ?_
  rintro _ w2 ⟨⟨u, rfl⟩, hop, hg⟩
  go_wp2
  go_ret
  exact ⟨rfl, hop, hg⟩

set_option maxHeartbeats 800000 in
set_option maxRecDepth 100000 in
theorem hsumM_word (pre : List Value) (hp : pre.length = 64) (g : Nat) (msg op : List Nat) (w : World) (hlaid : Laid w) (hh : Hm pre w g msg op) (hbd : msg.length ≤ 1000000000) :
    Calls Tryd.prog 39 #[.pointer (some ⟨g, 64, none⟩)] w fun e w' => e = .returned (.tuple #[.agg (arr .u8 (digest msg)), .int .i64 0]) ∧ Below w.heap.size w w' := by
  have b0 := bel_alloc w (.cells (arr .u8 z32) 26)
  have e0 := heap_new w (.cells (arr .u8 z32) 26)
  have s0 : (w.alloc (.cells (arr .u8 z32) 26)).heap.size = w.heap.size + 1 := by simp
  have hh0 := hh.later b0
  have HS := hid (soundM_word pre hp g msg op _ hh0)
  have HD := hid (digestM_word pre hp g msg op _ (hlaid.later b0) hh0 (by omega))
  clear hh hh0 hlaid
  go_enter Tryd.func39, Tryd.ntmps39
  go_wp2_with (refine wpList_alloc_at rfl 26 rfl (some 2) rfl (arr .u8 z32) Tryd.zero26 w.heap.size rfl ?_)
  generalize w.alloc (.cells (arr .u8 z32) 26) = w0 at *
  go_at_call 51
  refine HS.out.mono ?_
  rintro _ w1 ⟨rfl, hw⟩
  obtain rfl := hw.symm
  clear hw
  go_wp2_with fail
  go_at_call 42
  refine HD.out.mono ?_
  rintro _ w2 ⟨rfl, hb2⟩
  have hres : w2.heap[w.heap.size]? = some (.cells (arr .u8 z32) 26 (0, 0)) := by rw [hb2.block _ (by omega)]; exact e0
  have hbel := Bn b0 hb2
  have hsz : (arr .u8 (digest msg)).size = 32 := arr_size _ _
  have hld := run_loadVar_mid (P := Tryd.prog) (w2.setRow w.heap.size (arr .u8 (digest msg))) w.heap.size 0 26 (lst .u8 (digest msg)) _ (fun j v hv => by rw [Nat.zero_add, Joins.cell_of_block (setRow_heap _ _ _ _ _ _ hres) j, ← arr_lst, List.getElem?_toArray]; exact hv) Tryd.underlying26 rfl Tryd.size26
  clear hb2 HS HD e0
  go_wp2_with (refine wpList_store_rowTo rfl 26 _ _ rfl rfl w.heap.size (arr .u8 (digest msg)) rfl rfl 26 _ hres (by rw [hsz]; exact Tryd.size26) (by rw [hsz]; rfl) (arr_one _ _) ?_)
  refine bodyPost_ret (results_row_tmp rfl _ _ w.heap.size _ rfl hld) rfl ?_
  exact ⟨rfl, below_setRow hbel (Nat.le_refl _) _⟩

end Go.Proofs.YtkipepodgmfbnaaDoor
