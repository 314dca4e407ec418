/-
  The contracts of the Hash's digest and of sha.Sum.
-/
import Derived.Test.YtgnjicpmfpgdeaaDoorShTake
namespace Go.Proofs.YtgnjicpmfpgdeaaDoor.Sh
open Go.RowKit Sha

set_option maxRecDepth 100000 in
theorem Tryd.zero39 : ∀ w, (zeroValue 39).run Tryd.prog w = .ok (.agg (arr .u8 z32)) w := (zero_of_info (t := 39) (n := 32) (by kernel_rfl)).1
set_option maxRecDepth 100000 in
theorem Tryd.size39 : (Tryd.prog.info? 39).map (·.size) = some 32 := by kernel_rfl
set_option maxRecDepth 100000 in
theorem Tryd.size123 : (Tryd.prog.info? 123).map (·.size) = some 74 := by kernel_rfl

set_option maxRecDepth 100000 in
theorem hL_one (s : St) (op : List Nat) (n : Nat) : (hL s op n).toArray.all (·.oneCell') = true := by
  refine all_oneCell_toArray (fun v hv => ?_)
  rw [hL, List.mem_cons, List.mem_append, List.mem_append] at hv
  rcases hv with h | h | h | h
  · rw [h]; rfl
  · exact lst_one _ _ v h
  · exact lst_one _ _ v h
  · rw [List.mem_singleton] at h; rw [h]; rfl

set_option maxRecDepth 100000 in
theorem four_part (s : St) : ∀ j, j < 8 → ((Sha.bytes s).drop (4 * j)).take 4 = Sha.four (s.list.getD j 0)
  | 0, _ => rfl
  | 1, _ => rfl
  | 2, _ => rfl
  | 3, _ => rfl
  | 4, _ => rfl
  | 5, _ => rfl
  | 6, _ => rfl
  | 7, _ => rfl
  | n + 8, h => absurd h (by omega)

set_option maxRecDepth 100000 in
theorem four_bytes (x : Nat) : Wd.bytesF 4 1 (x : Int) = ints (Sha.four x) := by
  have e : ∀ k : Nat, ((x : Int) / (k : Int)) % 256 = ((x / k % 256 : Nat) : Int) := fun k => by rw [← Int.natCast_ediv]; rfl
  have h1 := e 256
  have h2 := e 65536
  have h3 := e 16777216
  show ([(x : Int) % 256, (x : Int) / 256 % 256, (x : Int) / 256 / 256 % 256, (x : Int) / 256 / 256 / 256 % 256] : List Int).reverse = _
  rw [Int.ediv_ediv_of_nonneg (by decide), Int.ediv_ediv_of_nonneg (by decide)]
  simp only [List.reverse_cons, List.reverse_nil, List.nil_append, List.cons_append, ints, Sha.four, List.map_cons, List.map_nil]
  rw [show (256 : Int) * 256 = 65536 from rfl, show (65536 : Int) * 256 = 16777216 from rfl]
  simp

set_option maxRecDepth 100000 in
theorem four_lt (x : Nat) : ∀ j, (Sha.four x).getD j 0 < 256 := by
  rw [all_lt]
  intro z hz
  simp [Sha.four] at hz
  omega

set_option maxRecDepth 100000 in
theorem fill_four (l : List Nat) (j : Nat) (hl : l.length = 32) (hj : j < 8) : putL (fillL 32 l (4 * j)) (4 * j) ((l.drop (4 * j)).take 4) = fillL 32 l (4 * (j + 1)) := by
  have h4 : ((l.drop (4 * j)).take 4).length = 4 := by rw [List.length_take, List.length_drop]; omega
  have ht : (l.take (4 * j)).length = 4 * j := by rw [List.length_take]; omega
  have hd : (l.take (4 * j) ++ List.replicate (32 - 4 * j) 0).drop (4 * j + 4) = List.replicate (32 - (4 * j + 4)) 0 := by
    rw [List.drop_append, ht, List.drop_eq_nil_of_le (by omega), List.nil_append, List.drop_replicate, show 32 - 4 * j - (4 * j + 4 - 4 * j) = 32 - (4 * j + 4) from by omega]
  have htk : (l.take (4 * j) ++ List.replicate (32 - 4 * j) 0).take (4 * j) = l.take (4 * j) := by
    rw [List.take_append_of_le_length (by omega), List.take_of_length_le (by omega)]
  rw [putL, h4, fillL, fillL, hd, htk, show 4 * (j + 1) = 4 * j + 4 from by omega, List.take_add, List.append_assoc]

set_option maxRecDepth 100000 in
theorem lst_splice (k : IntKind) (l : List Nat) (i : Nat) (m : List Nat) : splice (lst k l) i (lst k m) = lst k (putL l i m) := by
  rw [splice, putL, lst_length]
  simp [lst]

set_option maxRecDepth 100000 in
/-- A Hash that is known whole, copied. -/
theorem Hs.at {w w' : World} {g g' : Nat} {msg op : List Nat} (h : Hs w g msg op) (hb : w'.heap[g']? = some (.cells (hL (blocks (msg.length / 64) msg Sha.start) op msg.length).toArray 123 (0, 0))) : Hs w' g' msg op := ⟨hb, h.len, h.lo, h.tk, h.hi⟩
set_option maxRecDepth 100000 in
theorem Hs.later {w w' : World} {g : Nat} {msg op : List Nat} (h : Hs w g msg op) (hb : Below w.heap.size w w') : Hs w' g msg op :=
  h.at (by rw [hb.block g (Array.getElem?_eq_some_iff.1 h.blk).1]; exact h.blk)

set_option maxRecDepth 100000 in
theorem slice_digest (g j : Nat) (hj : j < 8) (W : World) : (Instr.sliceAt 39 (.pointer (some ⟨g, 0, none⟩)) (some (.int .i64 ((j : Int) * 32 / 8))) none none).run Tryd.prog W = .ok (.slice (some ⟨g, 4 * j, none⟩) (32 - 4 * j) (32 - 4 * j)) W := by
  have h := run_sliceAt_array_l (P := Tryd.prog) W 39 ⟨g, 0, none⟩ Tryd.underlying39 .i64 ((j : Int) * 32 / 8) (by omega) (by show (j : Int) * 32 / 8 ≤ ((32 : Nat) : Int); omega)
  rw [h, show Tryd.prog.elem 39 = 5 from rfl, Tryd.sizeB, show Tryd.prog.arrayLen 39 = 32 from rfl, show ((j : Int) * 32 / 8).toNat = 4 * j from by omega]
  simp only [Result.andThen_ok, slicedAt]
  rw [if_neg (by omega)]
  simp [Addr.add]
  omega

/-- What the walk of digest keeps from its loop on. -/
structure MemD (w wr : World) (gd : Nat) (d : List Nat) : Prop where
  res : wr.heap[w.heap.size]? = some (.cells (arr .u8 z32) 39 (0, 0))
  dv : wr.heap[gd]? = some (.cells (arr .u8 d) 39 (0, 0))
  bel : Below w.heap.size w wr

set_option maxHeartbeats 4000000 in
set_option maxRecDepth 100000 in
theorem digest_word (g : Nat) (msg op : List Nat) (w : World) (hlaid : Laid w) (hh : Hs w g msg op) (hbd : msg.length ≤ 1000000000000) :
    Calls Tryd.prog 78 #[.pointer (some ⟨g, 0, none⟩)] w fun e w' => e = .returned (.agg (arr .u8 (digest msg))) ∧ Below w.heap.size w w' := by
  have h2 := hlaid.two
  have hg : g < w.heap.size := (Array.getElem?_eq_some_iff.1 hh.blk).1
  have b1 := bel_alloc w (.cells (arr .u8 z32) 39)
  have e1 := heap_new w (.cells (arr .u8 z32) 39)
  have s1 : (w.alloc (.cells (arr .u8 z32) 39)).heap.size = w.heap.size + 1 := by simp
  have hh1 := hh.later b1
  have hblk := hh1.blk
  have hlen := hL_length (blocks (msg.length / 64) msg Sha.start) op msg.length hh.len
  have hone := hL_one (blocks (msg.length / 64) msg Sha.start) op msg.length
  have HN := hid (hL_n (blocks (msg.length / 64) msg Sha.start) op msg.length hh.len)
  have HLD := hid hlaid
  have HH1 := hid hh1
  have b2 := bel_alloc (w.alloc (.cells (arr .u8 z32) 39)) (.cells ZH 123)
  have e2 := heap_new (w.alloc (.cells (arr .u8 z32) 39)) (.cells ZH 123)
  have s2 : ((w.alloc (.cells (arr .u8 z32) 39)).alloc (.cells ZH 123)).heap.size = w.heap.size + 1 + 1 := by simp
  rw [s1] at e2
  generalize hHL : hL (blocks (msg.length / 64) msg Sha.start) op msg.length = HL at *
  have HHL := hid hHL
  have hasz : (Tryd.prog.info? 123).map (·.size) = some HL.toArray.size := by rw [List.size_toArray, hlen]; exact Tryd.size123
  have hzs : ZH.size = HL.toArray.size := by rw [ZH_size, List.size_toArray, hlen]
  have e3 : (((w.alloc (.cells (arr .u8 z32) 39)).alloc (.cells ZH 123)).setRow (w.heap.size + 1) HL.toArray).heap[w.heap.size + 1]? = some (.cells HL.toArray 123 (0, 0)) := setRow_heap _ _ _ _ _ _ e2
  have c73 : (((w.alloc (.cells (arr .u8 z32) 39)).alloc (.cells ZH 123)).setRow (w.heap.size + 1) HL.toArray).cell? ⟨w.heap.size + 1, 73, none⟩ = some (.int .u64 (msg.length : Int)) := by
    rw [Joins.cell_of_block e3 73, List.getElem?_toArray]; exact HN.out
  have b3 : Below w.heap.size w (((w.alloc (.cells (arr .u8 z32) 39)).alloc (.cells ZH 123)).setRow (w.heap.size + 1) HL.toArray) := below_setRow (Bn b1 b2) (by omega) _
  have r3 : (((w.alloc (.cells (arr .u8 z32) 39)).alloc (.cells ZH 123)).setRow (w.heap.size + 1) HL.toArray).heap[w.heap.size]? = some (.cells (arr .u8 z32) 39 (0, 0)) := by
    rw [setRow_other _ _ _ _ (by omega), b2.block _ (by omega)]; exact e1
  have s3 : (((w.alloc (.cells (arr .u8 z32) 39)).alloc (.cells ZH 123)).setRow (w.heap.size + 1) HL.toArray).heap.size = w.heap.size + 1 + 1 := by simp [World.setRow]
  clear hh hh1 hlaid hHL
  go_enter Tryd.func78, Tryd.ntmps78
  go_wp2_with (first
    | (refine wpList_alloc_at rfl 39 rfl (some 2) rfl (arr .u8 z32) Tryd.zero39 w.heap.size rfl ?_)
    | (refine wpList_load_row rfl 123 _ rfl g rfl 123 HL.toArray (0, 0) _ hblk Tryd.underlying123 rfl hasz ?_)
    | (refine wpList_alloc_at rfl 123 rfl (some 3) rfl ZH Tryd.zero123 (w.heap.size + 1) (by simp) ?_)
    | (refine wpList_store_rowTo rfl 123 _ _ rfl rfl (w.heap.size + 1) HL.toArray rfl rfl 123 _ e2 hasz hzs hone ?_))
  have hh3 : Hs (((w.alloc (.cells (arr .u8 z32) 39)).alloc (.cells ZH 123)).setRow (w.heap.size + 1) HL.toArray) (w.heap.size + 1) msg op := HH1.out.at (by rw [HHL.out]; exact e3)
  generalize hw3 : ((w.alloc (.cells (arr .u8 z32) 39)).alloc (.cells ZH 123)).setRow (w.heap.size + 1) HL.toArray = w3 at *
  have HH3 := hid hh3
  clear hw3 b1 b2 e1 e2 e3 s1 s2 hblk hasz hzs hone hlen hh3 HH1 HN c73
  have HPD := hid (fun W : World => pad_word msg.length W (by omega))
  have HPLT := hid (pad_lt msg.length)
  have hpl := pad_length msg.length
  have HDG : Hid (digest msg = Sha.bytes (blocks ((msg ++ pad msg.length).length / 64) (msg ++ pad msg.length) Sha.start)) := rfl
  generalize pad msg.length = pd at *
  go_at_call 89
  refine (HPD.out _).mono ?_
  rintro _ w4 ⟨pv, rfl, hpo, hpb⟩
  obtain ⟨pg, pc, rfl, hpg, hprd⟩ := rd_own hpo (by omega) HPLT.out
  have hh4 := HH3.out.later hpb
  have hz4 := hpb.size
  have hl4 := HLD.out.later (Bn b3 hpb)
  have r4 : w4.heap[w.heap.size]? = some (.cells (arr .u8 z32) 39 (0, 0)) := by rw [hpb.block _ (by omega)]; exact r3
  have b4 := Bn b3 hpb
  have HTK := hid (take_word (w.heap.size + 1) (some ⟨pg, 0, none⟩) pc pd msg op w4 hl4 (by omega) ⟨hprd, fun _ ad h => by injection h with h; rw [← h]; show pg ≠ _; omega⟩ hh4 (by omega))
  clear hpo hprd hh4 hl4 HPD r3 HH3 hpb
  go_wp2_with fail
  go_at_call 77
  refine (HTK.out).mono ?_
  rintro _ w5 ⟨⟨u5, rfl⟩, ⟨op5, hh5⟩, hg5⟩
  have hz5 := hg5.size
  have r5 : w5.heap[w.heap.size]? = some (.cells (arr .u8 z32) 39 (0, 0)) := by rw [hg5.block _ (by omega) (by intro h; injection h with h; omega)]; exact r4
  have b5 : Below w.heap.size w w5 := b4.grown hg5 (by omega) (fun k hk => by injection hk with hk; omega)
  have b6 := bel_alloc w5 (.cells (arr .u8 z32) 39)
  have e6 := heap_new w5 (.cells (arr .u8 z32) 39)
  have hh6 := hh5.later b6
  have hok := blocks_ok ((msg ++ pd).length / 64) (msg ++ pd) Sha.start start_ok
  have hrg : (w5.alloc (.cells (arr .u8 z32) 39)).rangeAt (w.heap.size + 1) 1 (lst .u32 (blocks ((msg ++ pd).length / 64) (msg ++ pd) Sha.start).list) := by
    intro j v hv
    rw [Joins.cell_of_block hh6.blk (1 + j), List.getElem?_toArray]
    exact hL_st _ _ _ _ _ hv
  have hM : MemD w (w5.alloc (.cells (arr .u8 z32) 39)) w5.heap.size (fillL 32 (Sha.bytes (blocks ((msg ++ pd).length / 64) (msg ++ pd) Sha.start)) (4 * 0)) := by
    refine ⟨by rw [b6.block _ (by omega)]; exact r5, ?_, Bn b5 b6⟩
    rw [Nat.mul_zero, fillL_zero]; exact e6
  have HM := hid hM
  have hgd : w.heap.size < w5.heap.size := by omega
  clear HTK hh5 hg5 r5 b5 b6 e6 hh6 r4 b4 hM b3 hpg
  generalize blocks ((msg ++ pd).length / 64) (msg ++ pd) Sha.start = sb at *
  have hsz8 : (Tryd.prog.info? 118).map (·.size) = some (lst .u32 sb.list).length := Tryd.size118
  go_wp2_with (first
    | (refine wpList_alloc_at rfl 39 rfl (some 4) rfl (arr .u8 z32) Tryd.zero39 w5.heap.size rfl ?_)
    | (refine wpList_load_mid rfl 118 _ rfl (w.heap.size + 1) 1 rfl (lst .u32 sb.list) _ hrg Tryd.underlying118 rfl hsz8 ?_))
  clear hrg hsz8
  generalize hw6 : w5.alloc (.cells (arr .u8 z32) 39) = w6 at *
  generalize w5.heap.size = gd at *
  clear hw6
  rw [arr_lst]
  go_loopw [18] (fun i wr => ∃ j : Nat, j ≤ 8 ∧ i = .int .i64 j ∧ MemD w wr gd (fillL 32 (Sha.bytes sb) (4 * j))) (fun i _ => 8 - (intOf i).toNat)
  case atStart => exact ⟨0, by omega, rfl, HM.out⟩
  case round =>
    obtain ⟨j, hj, rfl, hM⟩ := hrel
    by_cases hlt : j < 8
    · have hj8 : (j : Int) < 8 := by omega
      have d1 := fun W : World => run_index_arr (P := Tryd.prog) Tryd.underlying118 Tryd.underlying117 Tryd.size117 sb.list rfl j hlt W
      have hx := list_lt sb hok j
      have HFP := hid (four_part sb j hlt)
      have HFF := hid (fill_four (Sha.bytes sb) j (bytes_length sb) hlt)
      have hfl := fillL_length 32 (Sha.bytes sb) (4 * j) (bytes_length sb) (by omega)
      rw [HFP.out] at HFF
      generalize sb.list.getD j 0 = x at *
      have HBW := hid (fun W : World => Wd.bytes_word (x : Int) 32 1 4 W (by omega) (by omega) (by decide) (by decide) (by decide))
      have HFB := hid (four_bytes x)
      have HMj := hid hM
      clear hM HFP
      go_wp2_with fail
      go_at_call 55
      refine (HBW.out _).mono ?_
      rintro _ w7 ⟨pv7, rfl, hpo, hpb⟩
      rw [HFB.out, ints_length, V_ints] at hpo
      have h4 : (Sha.four x).length = 4 := rfl
      obtain ⟨pg7, pc7, rfl, hpg7, hprd7⟩ := rd_own hpo (by rw [h4]; decide) (four_lt x)
      have HP7 := hid hprd7
      have HB7 := hid hpb
      clear hpo hprd7 hpb HBW HFB
      have hsl := slice_digest gd j hlt
      have hdv7 : w7.heap[gd]? = some (.cells (lst .u8 (fillL 32 (Sha.bytes sb) (4 * j))).toArray 39 (0, 0)) := by
        rw [HB7.out.block _ (Array.getElem?_eq_some_iff.1 HMj.out.dv).1]; exact HMj.out.dv
      have hcp : (Builtin.copy_ #[22, 22] 3 #[.slice (some ⟨gd, 4 * j, none⟩) (32 - 4 * j) (32 - 4 * j), .slice (some ⟨pg7, 0, none⟩) 4 pc7]).run Tryd.prog w7 = .ok (.int .i64 4) (w7.setRow gd (arr .u8 (fillL 32 (Sha.bytes sb) (4 * (j + 1))))) := by
        have h := run_copy_row (P := Tryd.prog) w7 22 22 3 5 gd (4 * j) (32 - 4 * j) (32 - 4 * j) ⟨pg7, 0, none⟩ 4 pc7 _ 39 (lst .u8 (Sha.four x)) Tryd.underlying22 (by kernel_rfl) hdv7 (by rw [lst_length, h4]; show 4 = min 4 (32 - 4 * j); omega) (fun q v hv => ?_) (by rw [lst_length, h4, List.size_toArray, lst_length, hfl]; omega) (lst_one _ _)
        · rw [h, List.toList_toArray, List.append_assoc, ← arr_lst, ← HFF.out, ← lst_splice, splice, lst_length]
          rfl
        · have hq : q < (Sha.four x).length := by have := (List.getElem?_eq_some_iff.1 hv).1; rw [lst_length] at this; exact this
          obtain ⟨b, off, hb, _, hc⟩ := HP7.out.cells (by rw [h4]; decide)
          injection hb with hb
          injection hb with hb1 hb2
          subst hb1 hb2
          rw [Go.WideShapes.add_plain, hc q hq, ← hv]
          simp [lst, List.getD, List.getElem?_eq_getElem hq]
      have hM8 : MemD w (w7.setRow gd (arr .u8 (fillL 32 (Sha.bytes sb) (4 * (j + 1))))) gd (fillL 32 (Sha.bytes sb) (4 * (j + 1))) := by
        have hres : w.heap.size < wr.heap.size := (Array.getElem?_eq_some_iff.1 HMj.out.res).1
        refine ⟨?_, setRow_heap _ _ _ _ _ _ hdv7, below_setRow (Bn HMj.out.bel HB7.out) (by omega) _⟩
        rw [setRow_other _ _ _ _ (by omega), HB7.out.block _ hres]; exact HMj.out.res
      have HM8 := hid hM8
      clear hM8 hdv7 hfl
      go_wp2
      exact ⟨⟨j + 1, by omega, by go_num, HM8.out⟩, by simp [intOf]; omega⟩
    · obtain rfl : j = 8 := by omega
      rw [show 4 * 8 = 32 from rfl, fillL_full 32 _ (bytes_length sb), ← HDG.out] at hM
      have hres := hM.res
      have hdv := hM.dv
      have hbel := hM.bel
      have hsz : (arr .u8 (digest msg)).size = 32 := by rw [HDG.out]; exact arr_size _ _
      clear hM HM HDG
      go_wp2_with (first
        | (refine wpList_load_row rfl 39 _ rfl gd rfl 39 (arr .u8 (digest msg)) (0, 0) _ hdv Tryd.underlying39 rfl (by rw [hsz]; exact Tryd.size39) ?_)
        | (refine wpList_store_rowTo rfl 39 _ _ rfl rfl w.heap.size (arr .u8 (digest msg)) rfl rfl 39 _ hres (by rw [hsz]; exact Tryd.size39) (by rw [hsz]; rfl) (arr_one _ _) ?_))
      refine bodyPost_ret (results_cell_row (ty := 39) rfl _ _ _ _ _ _ _ rfl (setRow_heap _ _ _ _ _ _ hres) Tryd.underlying39 rfl (by rw [hsz]; exact Tryd.size39)) rfl ?_
      exact ⟨rfl, below_setRow hbel (Nat.le_refl _) _⟩

set_option maxHeartbeats 1600000 in
set_option maxRecDepth 100000 in
theorem sum_word (a : Option Addr) (cap : Nat) (l : List (List Nat)) (w : World) (hlaid : Laid w) (hr : Ps w a cap l) (hbd : l.flatten.length ≤ 500000000000) :
    Calls Tryd.prog 60 #[.slice a l.length cap] w fun e w' => e = .returned (.agg (arr .u8 (digest l.flatten))) ∧ Below w.heap.size w w' := by
  have hroom := hr.room
  have hmost := hr.most
  unfold maxLen at hmost
  have HPS := hid hr
  have HFT := hid (flat_take l)
  have HFL := hid (flat_le l)
  have HTK : Hid (l.take l.length = l) := List.take_length
  have h2 := hlaid.two
  have HLD := hid hlaid
  clear hr hlaid
  generalize hnl : l.length = n at *
  have HNL := hid hnl
  clear hnl
  have b0 := bel_alloc w (.cells (arr .u8 z32) 39)
  have e0 := heap_new w (.cells (arr .u8 z32) 39)
  have s0 : (w.alloc (.cells (arr .u8 z32) 39)).heap.size = w.heap.size + 1 := by simp
  have HNW := hid (new_word (w.alloc (.cells (arr .u8 z32) 39)) (HLD.out.later b0))
  rw [s0] at HNW
  go_enter Tryd.func60, Tryd.ntmps60
  go_wp2_with (refine wpList_alloc_at rfl 39 rfl (some 2) rfl (arr .u8 z32) Tryd.zero39 w.heap.size rfl ?_)
  go_at_call 76
  refine HNW.out.mono ?_
  rintro _ w2 ⟨rfl, hh2, hb2⟩
  generalize hw1 : w.alloc (.cells (arr .u8 z32) 39) = w1 at *
  have e2 : w2.heap[w.heap.size]? = some (.cells (arr .u8 z32) 39 (0, 0)) := by rw [hb2.block _ (by omega)]; exact e0
  have hb2' : Below w.heap.size w w2 := b0.trans (hb2.mono (by omega))
  have hz2 := hb2.size
  have HH2 := hid hh2
  clear hw1 e0 HNW hh2
  go_wp2_with fail
  go_loopw [9] (fun i wr => ∃ (k : Nat) (op : List Nat), k ≤ n ∧ i = .int .i64 k ∧ Hs wr (w.heap.size + 1) (l.take k).flatten op ∧ wr.heap[w.heap.size]? = some (.cells (arr .u8 z32) 39 (0, 0)) ∧ Below w.heap.size w wr) (fun i _ => n - (intOf i).toNat)
  case atStart => exact ⟨0, z64, by omega, rfl, HH2.out, e2, hb2'⟩
  case round =>
    obtain ⟨k, op, hk, rfl, hh, hres, hbel⟩ := hrel
    have hgs : w.heap.size + 1 < wr.heap.size := (Array.getElem?_eq_some_iff.1 hh.blk).1
    by_cases hlt : k < n
    · have hkn : (k : Int) < (n : Int) := by omega
      have HF := hid (HFT.out k hlt)
      have hle := HFL.out (k + 1)
      rw [HF.out, List.length_append] at hle
      obtain ⟨bb, off, rfl, hbb, hc⟩ := HPS.out.cells (by have := HNL.out; omega)
      obtain ⟨v, a', cap', hck, hrd⟩ := hc k (by have := HNL.out; omega)
      have hv := hrd.val
      subst hv
      have hck' : wr.cell? ⟨bb, off + k, none⟩ = some (.slice a' (l.getD k []).length cap') := (hbel.cell (p := ⟨bb, off + k, none⟩) hbb).trans hck
      have hne : 0 < (l.getD k []).length → ∀ ad, a' = some ad → ad.block ≠ w.heap.size + 1 := by
        intro h0 ad had
        obtain ⟨b, off, hb, hbw, _⟩ := hrd.cells h0
        rw [hb] at had
        injection had with had
        rw [← had]
        show b ≠ _
        omega
      have hrd' := hrd.later hbel
      clear hc hck hrd
      generalize l.getD k [] = y at *
      generalize (l.take k).flatten = fl at *
      have HTW := hid (take_word (w.heap.size + 1) a' cap' y fl op wr (HLD.out.later hbel) (by omega) ⟨hrd', hne⟩ hh (by omega))
      clear hh hrd' hne
      go_wp2_with fail
      go_at_call 77
      refine HTW.out.mono ?_
      rintro _ w5 ⟨⟨u5, rfl⟩, ⟨op5, hh5⟩, hg5⟩
      have r5 : w5.heap[w.heap.size]? = some (.cells (arr .u8 z32) 39 (0, 0)) := by rw [hg5.block _ (by omega) (by intro h; injection h with h; omega)]; exact hres
      have b5 : Below w.heap.size w w5 := hbel.grown hg5 (by omega) (fun k hk => by injection hk with hk; omega)
      rw [← HF.out] at hh5
      clear hg5 HTW
      go_wp2
      exact ⟨⟨k + 1, op5, by omega, by go_num, hh5, r5, b5⟩, by simp [intOf]; omega⟩
    · obtain rfl : k = n := by omega
      rw [HTK.out] at hh
      have HDW := hid (digest_word (w.heap.size + 1) l.flatten op wr (HLD.out.later hbel) hh (by omega))
      clear hh
      go_wp2_with fail
      go_at_call 78
      refine HDW.out.mono ?_
      rintro _ w6 ⟨rfl, hb6⟩
      have hres6 : w6.heap[w.heap.size]? = some (.cells (arr .u8 z32) 39 (0, 0)) := by rw [hb6.block _ (by omega)]; exact hres
      have hbel6 := Bn hbel hb6
      have hsz : (arr .u8 (digest l.flatten)).size = 32 := arr_size _ _
      go_wp2_with (refine wpList_store_rowTo rfl 39 _ _ rfl rfl w.heap.size (arr .u8 (digest l.flatten)) rfl rfl 39 _ hres6 (by rw [hsz]; exact Tryd.size39) (by rw [hsz]; rfl) (arr_one _ _) ?_)
      refine bodyPost_ret (results_cell_row (ty := 39) rfl _ _ _ _ _ _ _ rfl (setRow_heap _ _ _ _ _ _ hres6) Tryd.underlying39 rfl (by rw [hsz]; exact Tryd.size39)) rfl ?_
      exact ⟨rfl, below_setRow hbel6 (Nat.le_refl _) _⟩
end Go.Proofs.YtgnjicpmfpgdeaaDoor.Sh
