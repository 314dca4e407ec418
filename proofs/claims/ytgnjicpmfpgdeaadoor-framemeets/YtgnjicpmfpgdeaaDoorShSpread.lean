/-
  The contract of sha's spread: the numbers w of a block.
-/
import Derived.Test.YtgnjicpmfpgdeaaDoorShTurn
namespace Go.Proofs.YtgnjicpmfpgdeaaDoor.Sh
open Go.RowKit Sha

def ints (l : List Nat) : List Int := l.map fun z : Nat => (z : Int)
theorem ints_length (l : List Nat) : (ints l).length = l.length := by simp [ints]
theorem ints_getD (l : List Nat) (j : Nat) : (ints l).getD j 0 = ((l.getD j 0 : Nat) : Int) := by
  simp only [ints, List.getD, List.getElem?_map]
  cases l[j]? <;> rfl

/-- The numbers of a block, as word.Words tells them. -/
def sixteen (bl : List Nat) : List Int := Wd.wordsF 4 1 (ints bl) 16
theorem sixteen_length (bl : List Nat) : (sixteen bl).length = 16 := Wd.wordsF_length _ _ _ _

theorem four_list (l : List Int) (h : l.length = 4) : l = [l.getD 0 0, l.getD 1 0, l.getD 2 0, l.getD 3 0] := by
  match l, h with
  | [a, b, c, d], _ => rfl

theorem be4_num (b0 b1 b2 b3 : Nat) (h0 : b0 < 256) (h1 : b1 < 256) (h2 : b2 < 256) (h3 : b3 < 256) : (((0 * 256 + (b0 : Int)) * 256 + (b1 : Int)) * 256 + (b2 : Int)) * 256 + (b3 : Int) = ((add32 (add32 (add32 (b0 * 16777216 % 4294967296) (b1 * 65536 % 4294967296)) (b2 * 256 % 4294967296)) b3 : Nat) : Int) := by
  unfold add32; omega

theorem sixteen_get (bl : List Nat) (hl : bl.length = 64) (hb : ∀ j, bl.getD j 0 < 256) (k : Nat) (hk : k < 16) : (sixteen bl).getD k 0 = ((wS bl k : Nat) : Int) := by
  rw [sixteen, Wd.wordsF_getD 4 1 (ints bl) 16 k hk, Wd.numF, if_pos rfl, wS_low bl k hk]
  have hlen : (((ints bl).drop (k * 4)).take 4).length = 4 := by rw [List.length_take, List.length_drop, ints_length, hl]; omega
  rw [four_list _ hlen, Wd.getD_drop_take _ _ _ _ (by decide), Wd.getD_drop_take _ _ _ _ (by decide), Wd.getD_drop_take _ _ _ _ (by decide), Wd.getD_drop_take _ _ _ _ (by decide), ints_getD, ints_getD, ints_getD, ints_getD, be4, Nat.mul_comm k 4, Nat.add_zero]
  exact be4_num _ _ _ _ (hb _) (hb _) (hb _) (hb _)

/-- What the walk of spread keeps: the result, the numbers w, and the row of word.Words. -/
structure MemP (w wr : World) (gl : Nat) (ls : List Int) (ws : List Nat) : Prop where
  res : wr.heap[w.heap.size + 1]? = some (.cells (arr .u32 z64) 126 (0, 0))
  wv : wr.heap[w.heap.size + 1 + 1]? = some (.cells (arr .u32 ws) 126 (0, 0))
  lv : ∀ j, j < 16 → wr.cell? ⟨gl, j, none⟩ = some (.int .u64 (ls.getD j 0))
  bel : Below w.heap.size w wr

theorem MemP.put {w wr : World} {gl : Nat} {ls : List Int} {ws : List Nat} (h : MemP w wr gl ls ws) (hg : gl ≠ w.heap.size + 1 + 1) (i v : Nat) : MemP w (wr.setCell ⟨w.heap.size + 1 + 1, i, none⟩ (.int .u32 (v : Int))) gl ls (ws.set i v) := by
  refine ⟨?_, ?_, fun j hj => ?_, h.bel.setCell (by simp; omega) _⟩
  · rw [heap_put_other h.wv (by omega)]; exact h.res
  · rw [Joins.block_setCell h.wv, arr_set]
  · rw [World.cell?_of_block (w := wr) (heap_put_other h.wv hg _)]; exact h.lv j hj

theorem MemP.drew {w wr : World} {gl : Nat} {ls : List Int} {ws : List Nat} (h : MemP w wr gl ls ws) : MemP w wr.drew gl ls ws := ⟨h.res, h.wv, h.lv, h.bel.drew⟩

theorem sum4_code (p q a c : Nat) : ((p : Int) + (q : Int) + (a : Int) + (c : Int)) % 4294967296 = ((add32 (add32 (add32 p a) q) c : Nat) : Int) := by
  unfold add32; omega

theorem Tryd.size126 : (Tryd.prog.info? 126).map (·.size) = some 64 := by kernel_rfl

theorem words_block (g : Nat) (bl : List Nat) (w : World) (hg : g < w.heap.size) (hl : bl.length = 64) (hb : ∀ j, bl.getD j 0 < 256) (hc : ∀ j, j < 64 → w.cell? ⟨g, j, none⟩ = some (.int .u8 ((bl.getD j 0 : Nat) : Int))) :
    Calls Tryd.prog 97 #[.slice (some ⟨g, 0, none⟩) 64 64, .int .i64 32, .int .i64 1] w fun e w' => ∃ gl cap, e = .returned (.tuple #[.slice (some ⟨gl, 0, none⟩) 16 cap, .int .i64 0]) ∧ w.heap.size ≤ gl ∧ gl < w'.heap.size ∧ (∀ j, j < 16 → w'.cell? ⟨gl, j, none⟩ = some (.int .u64 ((sixteen bl).getD j 0))) ∧ Below w.heap.size w w' := by
  have hr : Wd.Rd w (.slice (some ⟨g, 0, none⟩) (ints bl).length 64) (some ⟨g, 0, none⟩) 64 (ints bl) := by
    refine ⟨rfl, by rw [ints_length]; omega, by unfold maxLen; omega, fun _ => ⟨g, 0, rfl, hg, fun j hj => ?_⟩, fun j => ?_, fun j => ?_⟩
    · rw [Nat.zero_add, ints_getD]; exact hc j (by rw [ints_length] at hj; omega)
    · rw [ints_getD]; omega
    · rw [ints_getD]; have := hb j; omega
  have h := Wd.words_ok (some ⟨g, 0, none⟩) 64 (ints bl) 32 1 4 16 w hr (by decide) (by decide) (by decide) (by decide) (by rw [ints_length, hl]; decide) (by rw [ints_length, hl])
  rw [ints_length, hl] at h
  refine h.mono ?_
  rintro e w' ⟨v, rfl, hown, hbel⟩
  have hlen := sixteen_length bl
  have hown' := hown
  rcases hown.2 with ⟨_, h0⟩ | ⟨gl, cap, cur, rfl, hg2, hh, hn, hcap, _, _⟩
  · exact absurd h0 (by rw [show (Wd.wordsF 4 1 (ints bl) 16).length = 16 from hlen]; decide)
  · refine ⟨gl, cap, by rw [show (Wd.wordsF 4 1 (ints bl) 16).length = 16 from hlen], hg2, (Array.getElem?_eq_some_iff.1 hh).1, fun j hj => ?_, hbel⟩
    have hj' : j < (Wd.wordsF 4 1 (ints bl) 16).length := by rw [show (Wd.wordsF 4 1 (ints bl) 16).length = 16 from hlen]; exact hj
    rw [hown'.cellAt j hj']
    simp [sixteen, List.getD, List.getElem?_eq_getElem hj']

set_option maxHeartbeats 4000000 in
set_option maxRecDepth 100000 in
theorem spread_word (bl : List Nat) (w : World) (hl : bl.length = 64) (hb : ∀ j, bl.getD j 0 < 256) :
    Calls Tryd.prog 95 #[.agg (arr .u8 bl)] w fun e w' => e = .returned (.agg (arr .u32 (sched bl 64))) ∧ Below w.heap.size w w' := by
  have HG := hid (sixteen_get bl hl hb)
  have HWD := hid (fun (W : World) h1 h2 => words_block w.heap.size bl W h1 hl hb h2)
  have b1 := bel_alloc w (.cells (arr .u8 bl) 82)
  have s1 : (w.alloc (.cells (arr .u8 bl) 82)).heap.size = w.heap.size + 1 := by simp
  have e1 := heap_new w (.cells (arr .u8 bl) 82)
  have b2 := bel_alloc (w.alloc (.cells (arr .u8 bl) 82)) (.cells (arr .u32 z64) 126)
  have s2 : ((w.alloc (.cells (arr .u8 bl) 82)).alloc (.cells (arr .u32 z64) 126)).heap.size = w.heap.size + 1 + 1 := by simp
  have e2 := heap_new (w.alloc (.cells (arr .u8 bl) 82)) (.cells (arr .u32 z64) 126)
  have b3 := bel_alloc ((w.alloc (.cells (arr .u8 bl) 82)).alloc (.cells (arr .u32 z64) 126)) (.cells (arr .u32 z64) 126)
  have e3 := heap_new ((w.alloc (.cells (arr .u8 bl) 82)).alloc (.cells (arr .u32 z64) 126)) (.cells (arr .u32 z64) 126)
  have s3 : (((w.alloc (.cells (arr .u8 bl) 82)).alloc (.cells (arr .u32 z64) 126)).alloc (.cells (arr .u32 z64) 126)).heap.size = w.heap.size + 1 + 1 + 1 := by simp
  have HL := hid hl
  rw [s1] at e2
  rw [s2] at e3
  go_enter Tryd.func95, Tryd.ntmps95
  go_wp2_with (first
    | (refine wpList_alloc_at rfl 126 rfl (some 2) rfl (arr .u32 z64) Tryd.zero126 (w.heap.size + 1) (by simp) ?_)
    | (refine wpList_alloc_at rfl 126 rfl (some 3) rfl (arr .u32 z64) Tryd.zero126 (w.heap.size + 1 + 1) (by simp) ?_))
  generalize hw3 : ((w.alloc (.cells (arr .u8 bl) 82)).alloc (.cells (arr .u32 z64) 126)).alloc (.cells (arr .u32 z64) 126) = w3 at *
  have e1' : w3.heap[w.heap.size]? = some (.cells (arr .u8 bl) 82 (0, 0)) := by rw [b3.block _ (by omega), b2.block _ (by omega)]; exact e1
  have e2' : w3.heap[w.heap.size + 1]? = some (.cells (arr .u32 z64) 126 (0, 0)) := by rw [b3.block _ (by omega)]; exact e2
  have hB3 := Bn (Bn b1 b2) b3
  clear b1 s1 e1 b2 s2 e2 b3 hw3
  refine (HWD.out w3 (by omega) (fun j hj => (Joins.cell_of_block e1' j).trans (arr_get .u8 bl j (by have := HL.out; omega)))).mono ?_
  rintro _ w4 ⟨gl, cap, rfl, hgl, hgl4, hlv, hb4⟩
  have hM : MemP w w4 gl (sixteen bl) (wsL bl 0) := ⟨by rw [hb4.block _ (by omega)]; exact e2', by rw [hb4.block _ (by omega)]; exact e3, hlv, Bn hB3 hb4⟩
  have hgne : gl ≠ w.heap.size + 1 + 1 := by omega
  clear hb4 hlv hB3 e3 e1' e2' HWD hl hb
  go_wp2_with fail
  go_loopw [20] (fun i wr => ∃ k : Nat, k ≤ 16 ∧ i = .int .i64 k ∧ MemP w wr gl (sixteen bl) (wsL bl k)) (fun i _ => 16 - (intOf i).toNat)
  case atStart => exact ⟨0, by omega, rfl, hM⟩
  case round =>
    obtain ⟨k, hk, rfl, hM⟩ := hrel
    by_cases hlt : k < 16
    · have hk16 : (k : Int) < 16 := by omega
      have cl := hM.lv k hlt
      rw [HG.out k hlt] at cl
      have hwl := wsL_length bl k (by omega)
      have cw := (Joins.cell_of_block hM.wv k).trans (arr_get .u32 _ k (by omega))
      have fw := Joins.unfrozen_of_block hM.wv k
      have hput := hM.put hgne k (wS bl k)
      rw [wsL_set bl k (by omega)] at hput
      have hv := wS_lt bl k
      have HP := hid hput
      clear hput hM hwl
      generalize (wsL bl k).getD k 0 = old at *
      generalize wS bl k = v at *
      go_wp2
      exact ⟨⟨k + 1, by omega, by go_num, HP.out⟩, by simp [intOf]; omega⟩
    obtain rfl : k = 16 := by omega
    have HM := hid hM
    clear hM
    go_wp2_with fail
    rw [show ((16 : Nat) : Int) = 16 from rfl]
    go_loopw [8] (fun i wr => ∃ j : Nat, j ≤ 48 ∧ i = .int .i64 ((j : Int) + 16) ∧ MemP w wr gl (sixteen bl) (wsL bl (j + 16))) (fun i _ => 64 - (intOf i).toNat)
    case atStart => exact ⟨0, by omega, rfl, HM.out⟩
    case round =>
      obtain ⟨j, hj, rfl, hM⟩ := hrel
      by_cases hlt : j < 48
      · have hj48 : (j : Int) + 16 < 64 := by omega
        have hwl := wsL_length bl (j + 16) (by omega)
        have d0 := (Joins.cell_of_block hM.wv j).trans (arr_get .u32 _ j (by omega))
        have d1 := (Joins.cell_of_block hM.wv (j + 1)).trans (arr_get .u32 _ _ (by omega))
        have d9 := (Joins.cell_of_block hM.wv (j + 9)).trans (arr_get .u32 _ _ (by omega))
        have d14 := (Joins.cell_of_block hM.wv (j + 14)).trans (arr_get .u32 _ _ (by omega))
        have dw := (Joins.cell_of_block hM.wv (j + 16)).trans (arr_get .u32 _ _ (by omega))
        have fw := Joins.unfrozen_of_block hM.wv (j + 16)
        rw [wsL_get bl (j + 16) _ (by omega)] at d0 d1 d9 d14
        have x0 := wS_lt bl j
        have x1 := wS_lt bl (j + 1)
        have x9 := wS_lt bl (j + 9)
        have x14 := wS_lt bl (j + 14)
        have HN := hid (wS_step bl j)
        have HS0 := hid (sg0_int _ x1)
        have HS1 := hid (sg1_int _ x14)
        have HM0 : Hid ((wS bl (j + 1) : Int) / 8 = ((movN 3 (wS bl (j + 1)) : Nat) : Int)) := shr_int _ 3 x1 (by decide)
        have HM1x : Hid ((wS bl (j + 14) : Int) / 1024 = ((movN 10 (wS bl (j + 14)) : Nat) : Int)) := shr_int _ 10 x14 (by decide)
        have HSM := hid (sum4_code (wS bl j) (wS bl (j + 9)) (sg0 (wS bl (j + 1))) (sg1 (wS bl (j + 14))))
        have y0 := sg0_lt _ x1
        have y1 := sg1_lt _ x14
        have hput := fun W (h : MemP w W gl (sixteen bl) (wsL bl (j + 16))) => (h.put hgne (j + 16) (wS bl (j + 16))).drew
        rw [wsL_set bl (j + 16) (by omega), HN.out] at hput
        have HP := hid hput
        have HM := hid hM
        clear hput hM hwl
        generalize (wsL bl (j + 16)).getD (j + 16) 0 = old at *
        generalize wS bl j = v0 at *
        generalize wS bl (j + 1) = v1 at *
        generalize wS bl (j + 9) = v9 at *
        generalize wS bl (j + 14) = v14 at *
        go_wp2_with fail
        go_region
        have HM1 := hid HM.out.drew
        generalize hW1 : wr.drew = W1 at *
        have e0 : W1.cell? ⟨w.heap.size + 1 + 1, j, none⟩ = some (.int .u32 (v0 : Int)) := by rw [← hW1]; exact d0
        have e9 : W1.cell? ⟨w.heap.size + 1 + 1, j + 9, none⟩ = some (.int .u32 (v9 : Int)) := by rw [← hW1]; exact d9
        have ew : W1.cell? ⟨w.heap.size + 1 + 1, j + 16, none⟩ = some (.int .u32 (old : Int)) := by rw [← hW1]; exact dw
        have ef : W1.frozen? ⟨w.heap.size + 1 + 1, j + 16, none⟩ = false := by rw [← hW1]; exact fw
        clear d0 d1 d9 d14 dw fw HM hW1
        go_wp2_with fail
        go_at_call 96
        refine (right_word v1 7 _ _ x1 (by decide) (by decide) rfl).mono ?_
        rintro _ w' ⟨rfl, hw⟩
        obtain rfl := hw.symm
        clear hw
        go_wp2_with fail
        go_at_call 96
        refine (right_word v1 18 _ _ x1 (by decide) (by decide) rfl).mono ?_
        rintro _ w' ⟨rfl, hw⟩
        obtain rfl := hw.symm
        clear hw
        go_wp2_with fail
        rw [HM0.out, HS0.out]
        go_at_call 96
        refine (right_word v14 17 _ _ x14 (by decide) (by decide) rfl).mono ?_
        rintro _ w' ⟨rfl, hw⟩
        obtain rfl := hw.symm
        clear hw
        go_wp2_with fail
        go_at_call 96
        refine (right_word v14 19 _ _ x14 (by decide) (by decide) rfl).mono ?_
        rintro _ w' ⟨rfl, hw⟩
        obtain rfl := hw.symm
        clear hw
        go_wp2_with fail
        rw [HM1x.out, HS1.out]
        generalize sg0 v1 = t0 at *
        generalize sg1 v14 = t1 at *
        go_region
        rw [HSM.out]
        have HP1 := hid (HP.out _ HM1.out)
        generalize hW2 : (W1.setCell ⟨w.heap.size + 1 + 1, j + 16, none⟩ (.int .u32 ((add32 (add32 (add32 v0 t0) v9) t1 : Nat) : Int))).drew = W2 at *
        clear hW2
        go_wp2
        go_roundw
        case rel => exact ⟨j + 1, by omega, by go_num, by rw [show j + 1 + 16 = j + 16 + 1 from by omega]; exact HP1.out⟩
        case measure => simp [intOf]; omega
      · obtain rfl : j = 48 := by omega
        rw [show 48 + 16 = 64 from rfl, wsL_full] at hM
        have hres := hM.res
        have hwv := hM.wv
        have hbel := hM.bel
        have hsz : (arr .u32 (sched bl 64)).size = 64 := by rw [arr_size, sched_length]
        clear hM HM
        go_wp2_with (first
          | (refine wpList_load_row rfl 126 _ rfl (w.heap.size + 1 + 1) rfl 126 (arr .u32 (sched bl 64)) (0, 0) _ hwv Tryd.underlying126 rfl (by rw [hsz]; exact Tryd.size126) ?_)
          | (refine wpList_store_rowTo rfl 126 _ _ rfl rfl (w.heap.size + 1) (arr .u32 (sched bl 64)) rfl rfl 126 _ hres (by rw [hsz]; exact Tryd.size126) (by rw [hsz]; rfl) (arr_one _ _) ?_))
        refine bodyPost_ret (results_cell_row (ty := 126) rfl _ _ _ _ _ _ _ rfl (setRow_heap _ _ _ _ _ _ hres) Tryd.underlying126 rfl (by rw [hsz]; exact Tryd.size126)) rfl ?_
        exact ⟨rfl, below_setRow hbel (by omega) _⟩
end Go.Proofs.YtgnjicpmfpgdeaaDoor.Sh
