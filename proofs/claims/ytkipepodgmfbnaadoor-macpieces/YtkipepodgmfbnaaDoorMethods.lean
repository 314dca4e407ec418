/-
  The contracts of a Hash's sound, Write, Sum and Copy, of one that New or Copy made.
-/
import Derived.Test.YtkipepodgmfbnaaDoorLists
import Derived.Laws.ResultCell
namespace Go.Proofs.YtkipepodgmfbnaaDoor
open Go.RowKit Sha

theorem results_row_tmp {P : Program} {fn : Func} {p u : Tmp} {ty : TypeId} (h : fn.results = #[.cell p ty, .tmp u]) (tmps : Array Value) (w : World) (g : Nat) (v : Value) (hp : tmps.getD p undef = .pointer (some ⟨g, 0, none⟩)) (hl : (loadVar ty ⟨g, 0, none⟩).run P w = .ok v w) :
    (results fn tmps).run P w = .ok (.tuple #[v, tmps.getD u undef]) w := by
  rw [results_cell_tmp h, hp]
  simp [asAddr, hl]

theorem Hs.made {w : World} {g : Nat} {msg op : List Nat} (h : Hs w g msg op) : w.cell? ⟨g, 0, none⟩ = some (.bool true) := by
  rw [Joins.cell_of_block h.blk 0, List.getElem?_toArray]; exact hL_made _ _ _
theorem Hs.count {w : World} {g : Nat} {msg op : List Nat} (h : Hs w g msg op) : w.cell? ⟨g, 73, none⟩ = some (.int .u64 (msg.length : Int)) := by
  rw [Joins.cell_of_block h.blk 73, List.getElem?_toArray]; exact hL_n _ _ _ h.len

theorem sound_word (g : Nat) (msg op : List Nat) (w : World) (hh : Hs w g msg op) :
    Calls Tryd.prog 51 #[.pointer (some ⟨g, 0, none⟩)] w fun e w' => e = .returned (.bool true) ∧ w' = w := by
  have c0 := hh.made
  clear hh
  go_enter Tryd.func51, Tryd.ntmps51
  go_wp2
  go_ret
  exact ⟨rfl, rfl⟩

set_option maxHeartbeats 800000 in
theorem write_word (g : Nat) (a : Option Addr) (cap : Nat) (zs msg op : List Nat) (w : World) (hlaid : Laid w) (h2 : 2 ≤ g) (hr : Rx g w (.slice a zs.length cap) a cap zs) (hh : Hs w g msg op) (hbd : msg.length + zs.length ≤ 1000000000) :
    Calls Tryd.prog 38 #[.pointer (some ⟨g, 0, none⟩), .slice a zs.length cap] w fun e w' => e = .returned (.int .i64 0) ∧ (∃ op', Hs w' g (msg ++ zs) op') ∧ w.grownBy w' (some g) := by
  have HS := hid (sound_word g msg op w hh)
  have c73 := hh.count
  have HT := hid (take_word g a cap zs msg op w hlaid h2 hr hh (by omega))
  clear hr hh hlaid
  generalize zs.length = zn at *
  generalize msg.length = mn at *
  have hle : ¬ (1099511627776 - (mn : Int)) < (zn : Int) := by omega
  go_enter Tryd.func38, Tryd.ntmps38
  go_wp2_with fail
  go_at_call 51
  refine HS.out.mono ?_
  rintro _ w1 ⟨rfl, hw⟩
  obtain rfl := hw.symm
  clear hw
  go_wp2_with fail
  go_at_call 41
  refine HT.out.mono ?_
  rintro _ w2 ⟨⟨u, rfl⟩, hop, hg⟩
  go_wp2
  go_ret
  exact ⟨rfl, hop, hg⟩

set_option maxHeartbeats 800000 in
set_option maxRecDepth 100000 in
theorem hsum_word (g : Nat) (msg op : List Nat) (w : World) (hlaid : Laid w) (hh : Hs w g msg op) (hbd : msg.length ≤ 1000000000) :
    Calls Tryd.prog 39 #[.pointer (some ⟨g, 0, none⟩)] w fun e w' => e = .returned (.tuple #[.agg (arr .u8 (digest msg)), .int .i64 0]) ∧ Below w.heap.size w w' := by
  have b0 := bel_alloc w (.cells (arr .u8 z32) 26)
  have e0 := heap_new w (.cells (arr .u8 z32) 26)
  have s0 : (w.alloc (.cells (arr .u8 z32) 26)).heap.size = w.heap.size + 1 := by simp
  have hh0 := hh.later b0
  have HS := hid (sound_word g msg op _ hh0)
  have HD := hid (digest_word g msg op _ (hlaid.later b0) hh0 (by omega))
  clear hh hh0 hlaid
  go_enter Tryd.func39, Tryd.ntmps39
  go_wp2_with (refine wpList_alloc_at rfl 26 rfl (some 2) rfl (arr .u8 z32) Tryd.zero26 w.heap.size rfl ?_)
  generalize w.alloc (.cells (arr .u8 z32) 26) = w0 at *
  go_at_call 51
  refine HS.out.mono ?_
  rintro _ w1 ⟨rfl, hw⟩
  obtain rfl := hw.symm
  clear hw
  go_wp2_with fail
  go_at_call 42
  refine HD.out.mono ?_
  rintro _ w2 ⟨rfl, hb2⟩
  have hres : w2.heap[w.heap.size]? = some (.cells (arr .u8 z32) 26 (0, 0)) := by rw [hb2.block _ (by omega)]; exact e0
  have hbel := Bn b0 hb2
  have hsz : (arr .u8 (digest msg)).size = 32 := arr_size _ _
  have hld := run_loadVar_mid (P := Tryd.prog) (w2.setRow w.heap.size (arr .u8 (digest msg))) w.heap.size 0 26 (lst .u8 (digest msg)) _ (fun j v hv => by rw [Nat.zero_add, Joins.cell_of_block (setRow_heap _ _ _ _ _ _ hres) j, ← arr_lst, List.getElem?_toArray]; exact hv) Tryd.underlying26 rfl Tryd.size26
  clear hb2 HS HD e0
  go_wp2_with (refine wpList_store_rowTo rfl 26 _ _ rfl rfl w.heap.size (arr .u8 (digest msg)) rfl rfl 26 _ hres (by rw [hsz]; exact Tryd.size26) (by rw [hsz]; rfl) (arr_one _ _) ?_)
  refine bodyPost_ret (results_row_tmp rfl _ _ w.heap.size _ rfl hld) rfl ?_
  exact ⟨rfl, below_setRow hbel (Nat.le_refl _) _⟩

end Go.Proofs.YtkipepodgmfbnaaDoor
