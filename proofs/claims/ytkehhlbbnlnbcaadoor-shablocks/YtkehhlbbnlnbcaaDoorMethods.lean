/-
  The contracts of a Hash's sound, Write, Sum and Copy, of one that New or Copy made.
-/
import Derived.Test.YtkehhlbbnlnbcaaDoorLists
import Derived.Laws.ResultCell
namespace Go.Proofs.YtkehhlbbnlnbcaaDoor
open Go.RowKit Sha

theorem results_row_tmp {P : Program} {fn : Func} {p u : Tmp} {ty : TypeId} (h : fn.results = #[.cell p ty, .tmp u]) (tmps : Array Value) (w : World) (g : Nat) (v : Value) (hp : tmps.getD p undef = .pointer (some ⟨g, 0, none⟩)) (hl : (loadVar ty ⟨g, 0, none⟩).run P w = .ok v w) :
    (results fn tmps).run P w = .ok (.tuple #[v, tmps.getD u undef]) w := by
  rw [results_cell_tmp h, hp]
  simp [asAddr, hl]

theorem Hs.made {w : World} {g : Nat} {msg op : List Nat} (h : Hs w g msg op) : w.cell? ⟨g, 0, none⟩ = some (.bool true) := by
  rw [Joins.cell_of_block h.blk 0, List.getElem?_toArray]; exact hL_made _ _ _
theorem Hs.count {w : World} {g : Nat} {msg op : List Nat} (h : Hs w g msg op) : w.cell? ⟨g, 73, none⟩ = some (.int .u64 (msg.length : Int)) := by
  rw [Joins.cell_of_block h.blk 73, List.getElem?_toArray]; exact hL_n _ _ _ h.len

theorem sound_word (g : Nat) (msg op : List Nat) (w : World) (hh : Hs w g msg op) :
    Calls Tryd.prog 40 #[.pointer (some ⟨g, 0, none⟩)] w fun e w' => e = .returned (.bool true) ∧ w' = w := by
  have c0 := hh.made
  clear hh
  go_enter Tryd.func40, Tryd.ntmps40
  go_wp2
  go_ret
  exact ⟨rfl, rfl⟩

set_option maxHeartbeats 800000 in
theorem write_word (g : Nat) (a : Option Addr) (cap : Nat) (zs msg op : List Nat) (w : World) (hlaid : Laid w) (h2 : 2 ≤ g) (hr : Rx g w (.slice a zs.length cap) a cap zs) (hh : Hs w g msg op) (hbd : msg.length + zs.length ≤ 1000000000) :
    Calls Tryd.prog 24 #[.pointer (some ⟨g, 0, none⟩), .slice a zs.length cap] w fun e w' => e = .returned (.int .i64 0) ∧ (∃ op', Hs w' g (msg ++ zs) op') ∧ w.grownBy w' (some g) := by
  have HS := hid (sound_word g msg op w hh)
  have c73 := hh.count
  have HT := hid (take_word g a cap zs msg op w hlaid h2 hr hh (by omega))
  clear hr hh hlaid
  generalize zs.length = zn at *
  generalize msg.length = mn at *
  have hle : ¬ (1099511627776 - (mn : Int)) < (zn : Int) := by omega
  go_enter Tryd.func24, Tryd.ntmps24
  go_wp2_with fail
  go_at_call 40
  refine HS.out.mono ?_
  rintro _ w1 ⟨rfl, hw⟩
  obtain rfl := hw.symm
  clear hw
  go_wp2_with fail
  go_at_call 29
  refine HT.out.mono ?_
  rintro _ w2 ⟨⟨u, rfl⟩, hop, hg⟩
  go_wp2
  go_ret
  exact ⟨rfl, hop, hg⟩

set_option maxHeartbeats 800000 in
set_option maxRecDepth 100000 in
theorem hsum_word (g : Nat) (msg op : List Nat) (w : World) (hlaid : Laid w) (hh : Hs w g msg op) (hbd : msg.length ≤ 1000000000) :
    Calls Tryd.prog 25 #[.pointer (some ⟨g, 0, none⟩)] w fun e w' => e = .returned (.tuple #[.agg (arr .u8 (digest msg)), .int .i64 0]) ∧ Below w.heap.size w w' := by
  have b0 := bel_alloc w (.cells (arr .u8 z32) 25)
  have e0 := heap_new w (.cells (arr .u8 z32) 25)
  have s0 : (w.alloc (.cells (arr .u8 z32) 25)).heap.size = w.heap.size + 1 := by simp
  have hh0 := hh.later b0
  have HS := hid (sound_word g msg op _ hh0)
  have HD := hid (digest_word g msg op _ (hlaid.later b0) hh0 (by omega))
  clear hh hh0 hlaid
  go_enter Tryd.func25, Tryd.ntmps25
  go_wp2_with (refine wpList_alloc_at rfl 25 rfl (some 2) rfl (arr .u8 z32) Tryd.zero25 w.heap.size rfl ?_)
  generalize w.alloc (.cells (arr .u8 z32) 25) = w0 at *
  go_at_call 40
  refine HS.out.mono ?_
  rintro _ w1 ⟨rfl, hw⟩
  obtain rfl := hw.symm
  clear hw
  go_wp2_with fail
  go_at_call 30
  refine HD.out.mono ?_
  rintro _ w2 ⟨rfl, hb2⟩
  have hres : w2.heap[w.heap.size]? = some (.cells (arr .u8 z32) 25 (0, 0)) := by rw [hb2.block _ (by omega)]; exact e0
  have hbel := Bn b0 hb2
  have hsz : (arr .u8 (digest msg)).size = 32 := arr_size _ _
  have hld := run_loadVar_mid (P := Tryd.prog) (w2.setRow w.heap.size (arr .u8 (digest msg))) w.heap.size 0 25 (lst .u8 (digest msg)) _ (fun j v hv => by rw [Nat.zero_add, Joins.cell_of_block (setRow_heap _ _ _ _ _ _ hres) j, ← arr_lst, List.getElem?_toArray]; exact hv) Tryd.underlying25 rfl Tryd.size25
  clear hb2 HS HD e0
  go_wp2_with (refine wpList_store_rowTo rfl 25 _ _ rfl rfl w.heap.size (arr .u8 (digest msg)) rfl rfl 25 _ hres (by rw [hsz]; exact Tryd.size25) (by rw [hsz]; rfl) (arr_one _ _) ?_)
  refine bodyPost_ret (results_row_tmp rfl _ _ w.heap.size _ rfl hld) rfl ?_
  exact ⟨rfl, below_setRow hbel (Nat.le_refl _) _⟩

set_option maxHeartbeats 800000 in
set_option maxRecDepth 100000 in
theorem copy_word (g : Nat) (msg op : List Nat) (w : World) (hh : Hs w g msg op) :
    Calls Tryd.prog 26 #[.pointer (some ⟨g, 0, none⟩)] w fun e w' => e = .returned (.tuple #[.pointer (some ⟨w.heap.size, 0, none⟩), .int .i64 0]) ∧ Hs w' w.heap.size msg op ∧ Below w.heap.size w w' := by
  have HS := hid (sound_word g msg op w hh)
  have hblk := hh.blk
  have HH := hid hh
  have hlen := hL_length (blocks (msg.length / 64) msg Sha.start) op msg.length hh.len
  have hone := hL_one (blocks (msg.length / 64) msg Sha.start) op msg.length
  have e1 := heap_new w (.cells ZH 78)
  have b1 := bel_alloc w (.cells ZH 78)
  generalize hHL : hL (blocks (msg.length / 64) msg Sha.start) op msg.length = HL at *
  have HHL := hid hHL
  have hasz : (Tryd.prog.info? 78).map (·.size) = some HL.toArray.size := by rw [List.size_toArray, hlen]; exact Tryd.size78
  have hzs : ZH.size = HL.toArray.size := by rw [ZH_size, List.size_toArray, hlen]
  clear hh hHL
  go_enter Tryd.func26, Tryd.ntmps26
  go_wp2_with fail
  go_at_call 40
  refine HS.out.mono ?_
  rintro _ w1 ⟨rfl, hw⟩
  obtain rfl := hw.symm
  clear hw
  go_wp2_with (first
    | (refine wpList_load_row rfl 78 _ rfl g rfl 78 HL.toArray (0, 0) _ hblk Tryd.underlying78 rfl hasz ?_)
    | (refine wpList_alloc_at rfl 78 rfl (some 4) rfl ZH Tryd.zero78 w.heap.size rfl ?_)
    | (refine wpList_store_rowTo rfl 78 _ _ rfl rfl w.heap.size HL.toArray rfl rfl 78 _ e1 hasz hzs hone ?_))
  go_ret2
  exact ⟨rfl, HH.out.at (by rw [HHL.out]; exact setRow_heap _ _ _ _ _ _ e1), below_setRow b1 (Nat.le_refl _) _⟩
end Go.Proofs.YtkehhlbbnlnbcaaDoor
