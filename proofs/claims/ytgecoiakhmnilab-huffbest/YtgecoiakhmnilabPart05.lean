/-
  The contract of the writer's put.
-/
import Derived.Test.YtgecoiakhmnilabPart04
import Derived.Test.YtgecoiakhmnilabPart02
import Derived.Deep.RegionHeld
namespace Go.Proofs.Ytgecoiakhmnilab
open Go.RowKit Hf

theorem Try.info5 : (Try.prog.info? 5).map (fun i => (i.zero, i.size, i.bytes)) = some (some (.int .u8 0), 1, 1) := by kernel_rfl

/-- A writer at block g that holds the n bits of N; its bytes lie behind it. -/
structure Wr (w : World) (g : Nat) (l : List Int) (o n : Nat) (v : Value) : Prop where
  blk : w.heap[g]? = some (.cells #[v, .int .u32 (o : Int), .int .i64 (n : Int)] 60 (0, 0))
  row : w.ownsRow (g + 1) 5 1 v l.length (l.map (Value.int .u8))
theorem Wr.lt {w : World} {g : Nat} {l : List Int} {o n : Nat} {v : Value} (h : Wr w g l o n v) : g < w.heap.size := (Array.getElem?_eq_some_iff.1 h.blk).1

theorem own_ne {w : World} {g : Nat} {e n : Nat} {v : Value} {xs : List Value} (h : w.ownsRow (g + 1) e 1 v n xs) : v.ownBlock ≠ some g := by
  intro hv
  have := (h.lt g hv).1
  omega

theorem Wr.open' {w : World} {g : Nat} {l : List Int} {o n : Nat} {v : Value} (h : Wr w g l o n v) (x : Nat) : Wr (w.setCell ⟨g, 1, none⟩ (.int .u32 (x : Int))) g l x n v := by
  refine ⟨?_, ownsRow_setCell_other h.row (own_ne h.row) _⟩
  rw [Joins.block_setCell h.blk]; rfl
theorem Wr.num {w : World} {g : Nat} {l : List Int} {o n : Nat} {v : Value} (h : Wr w g l o n v) (x : Nat) : Wr (w.setCell ⟨g, 2, none⟩ (.int .i64 (x : Int))) g l o x v := by
  refine ⟨?_, ownsRow_setCell_other h.row (own_ne h.row) _⟩
  rw [Joins.block_setCell h.blk]; rfl

theorem one_cell (w : World) (x : Value) : (w.alloc (.cells #[x] 5)).cell? ⟨w.heap.size, 0, none⟩ = some x := by simp

theorem own_slice {w : World} {B e n : Nat} {v : Value} {xs : List Value} (h : w.ownsRow B e 1 v n xs) : ∃ a m cap, v = .slice a m cap := by
  rcases h.2 with ⟨rfl, rfl⟩ | ⟨g, cap, cur, rfl, _⟩
  · exact ⟨none, 0, 0, rfl⟩
  · exact ⟨_, _, cap, rfl⟩

/-- append of one byte behind a row of one's own, as an operation. -/
theorem wp_app_one (w : World) {o : Oper} {ac : Act} {K : Act → World → Prop} {Q : Exit → Act → World → Prop} (s x : Operand)
    (ho : o.op = .call { callee := .builtin .append, args := #[s, x], argTypes := #[45, 45] }) (B : Nat) (v : Value) (l : List Int) (z : Int) (hs : ac.eval s = v) (hown : w.ownsRow B 5 1 v l.length (l.map (Value.int .u8)))
    (gx : Nat) (hx : ac.eval x = .slice (some ⟨gx, 0, none⟩) 1 1) (hc : w.cell? ⟨gx, 0, none⟩ = some (.int .u8 z)) (hbd : l.length ≤ 1000000) (hB : B ≤ w.heap.size)
    (h : ∀ v' w', w'.ownsRow B 5 1 v' (l ++ [z]).length ((l ++ [z]).map (Value.int .u8)) → w.grownBy w' v.ownBlock → K (ac.put o.dst v') w') : o.wp Try.prog ac w K Q := by
  obtain ⟨i0, hi, hz0, hz1, hz2⟩ := info_parts Try.info5
  refine wp_append_own w s x 45 ho B 5 i0 (.int .u8 0) 1 1 Try.underlying45 hi hz0 hz1 hz2 rfl (by decide) v l.length _ hs hown ⟨gx, 0, none⟩ 1 1 [.int .u8 z] hx rfl ?_ ?_ (by unfold maxLen; omega) (by omega) hB ?_
  · intro j u hj
    match j, hj with
    | 0, hj => simp at hj; subst hj; rw [Go.WideShapes.add_plain]; exact hc
  · intro u hu; simp at hu; subst hu; rfl
  · intro v' w' h1 h2 _
    refine h v' w' ?_ h2
    rw [List.length_append, List.map_append]
    exact h1

set_option maxHeartbeats 1600000 in
set_option maxRecDepth 100000 in
theorem put_word (g N n c len : Nat) (v : Value) (w : World) (hW : Wr w g (fullB N n) (N % 4294967296) n v) (hlen : len ≤ 15) (hc : c < 2 ^ len) (hn : n ≤ 100000) :
    Calls Try.prog 28 #[.pointer (some ⟨g, 0, none⟩), .int .u16 (c : Int), .int .i64 (len : Int)] w fun e w' => e = .returned (.tuple #[]) ∧ (∃ v', Wr w' g (fullB (N * 2 ^ len + c) (n + len)) ((N * 2 ^ len + c) % 4294967296) (n + len) v') ∧ Below g w w' := by
  have hm : N % 4294967296 < 4294967296 := Nat.mod_lt _ (by decide)
  have HX := hid (mod_step N len c)
  generalize N % 4294967296 = o at *
  have HY := hid (or_low o c len hlen hc)
  have c1 := Joins.cell_of_block hW.blk 1
  have c2 := Joins.cell_of_block hW.blk 2
  have f1 := Joins.unfrozen_of_block hW.blk 1
  simp at c1 c2
  have HW := hid hW
  have hcl : c < 65536 := Nat.lt_of_lt_of_le hc (by have := Nat.pow_le_pow_right (show 0 < 2 by decide) (show len ≤ 16 by omega); simpa using this)
  clear hW
  have hor : bits .or .u32 ((o : Int) * 2 ^ len % 4294967296) (c : Int) = (((N * 2 ^ len + c) % 4294967296 : Nat) : Int) := by
    have e : (o : Int) * 2 ^ len % 4294967296 = ((o * 2 ^ len % 4294967296 : Nat) : Int) := by simp
    rw [e, u32_or_nat _ _ (Nat.mod_lt _ (by decide)) (by omega), HY.out, HX.out]
  have hw1 := HW.out.open' ((N * 2 ^ len + c) % 4294967296)
  have hO := Nat.mod_lt (N * 2 ^ len + c) (show 0 < 4294967296 by decide)
  have hK := fullB_keep N n c len hc
  rw [← hK] at hw1
  have HOE := hid (fun e he => byte_low (N * 2 ^ len + c) e he)
  have HG := hid (fullB_getD (N * 2 ^ len + c) (n + len))
  have HFL := hid (fullB_length (N * 2 ^ len + c) (n + len))
  obtain ⟨T, hT⟩ : ∃ T, T = n + len := ⟨_, rfl⟩
  obtain ⟨D, hD⟩ : ∃ D : Nat, D = n % 8 + len := ⟨_, rfl⟩
  have hleft : (n : Int) % 8 + (len : Int) = (D : Int) := by omega
  have HDT : Hid (Value.int .i64 (D : Int) = Value.int .i64 ((T : Int) - 8 * ((n / 8 : Nat) : Int))) := by
    show _ = _
    congr 1
    omega
  clear hD
  rw [← hT] at HG HFL hw1
  rw [← hT]
  have hbel1 : Below g w (w.setCell ⟨g, 1, none⟩ (.int .u32 (((N * 2 ^ len + c) % 4294967296 : Nat) : Int))) := (Below.refl g w).setCell (show g ≤ (Addr.mk g 1 none).block from Nat.le_refl g) _
  have HW1 := hid hw1
  have HB1 := hid hbel1
  have HF1 := hid hleft
  have HNF := hid (rfl : fullB (N * 2 ^ len + c) T = fullB (N * 2 ^ len + c) T)
  have HTT := hid hT
  have hT2 : T ≤ 100015 := by omega
  clear hT
  generalize N * 2 ^ len + c = NN at *
  generalize NN % 4294967296 = O at *
  generalize fullB NN T = L at *
  clear hw1 hbel1 hleft hK HY HX
  go_enter Try.func28, Try.ntmps28
  go_wp2
  rw [HF1.out]
  generalize (w.setCell ⟨g, 1, none⟩ (.int .u32 (O : Int))) = w1 at *
  go_loopw [6] (fun i wr => ∃ q : Nat, n / 8 ≤ q ∧ q ≤ T / 8 ∧ i = .int .i64 ((T : Int) - 8 * (q : Int)) ∧ (∃ v, Wr wr g (L.take q) O n v) ∧ Below g w wr) (fun i _ => (intOf i).toNat)
  case atStart => exact ⟨n / 8, Nat.le_refl _, by have := HTT.out; omega, HDT.out, ⟨_, HW1.out⟩, HB1.out⟩
  case round =>
    clear HW1 HB1 HW c1 c2 f1
    obtain ⟨q, hq1, hq2, rfl, ⟨v, hWq⟩, hbel⟩ := hrel
    by_cases hlt : q < T / 8
    · obtain ⟨d, hd⟩ : ∃ d : Nat, (T : Int) - 8 * (q : Int) = (d : Int) := ⟨T - 8 * q, by omega⟩
      have he : d - 8 ≤ 14 := by have := HTT.out; omega
      have h8 : (8 : Int) ≤ (d : Int) := by omega
      have hd2 : (d : Int) ≤ 22 := by omega
      obtain ⟨x, hx⟩ : ∃ x : Int, x = L.getD q 0 := ⟨_, rfl⟩
      obtain ⟨y, hy⟩ : ∃ y : Nat, y = O / 2 ^ (d - 8) := ⟨_, rfl⟩
      have hyO : y ≤ O := by rw [hy]; exact Nat.div_le_self _ _
      have hxv : x = ((y % 256 : Nat) : Int) := by
        rw [hx, HG.out q hlt, hy, HOE.out _ he, show T - 8 * (q + 1) = d - 8 from by omega]
      have HWR : Hid (IntKind.i64.wrap ((d : Int) - 8) = (d : Int) - 8) := by show _ = _; rw [IntKind.wrap_i64]; omega
      have HSH : Hid ((O : Int) / 2 ^ ((d : Int) - 8).toNat = (y : Int)) := by
        show _ = _
        rw [show ((d : Int) - 8).toNat = d - 8 from by omega, hy]; simp
      have HCV : Hid (IntKind.u8.wrap (y : Int) = x) := by
        show _ = _
        rw [hxv, IntKind.wrap_u8]; simp
      have hx0 : 0 ≤ x ∧ x ≤ 255 := by rw [hxv]; have := Nat.mod_lt y (show 0 < 256 by decide); omega
      have HLQ : Hid (L.take (q + 1) = L.take q ++ [x]) := by
        show _ = _
        rw [hx, take_snoc L q (by rw [HFL.out]; exact hlt)]
      have HLN : Hid ((L.take q).length = q) := by show _ = _; rw [List.length_take, HFL.out]; omega
      have d0 := Joins.cell_of_block hWq.blk 0
      have d1 := Joins.cell_of_block hWq.blk 1
      simp at d0 d1
      have HWq := hid hWq
      have HBq := hid hbel
      have HD := hid hd
      rw [hd]
      clear hWq hbel hd hx hy hxv
      go_wp2_with fail
      refine wp_region_held_drew (S := fun _ => True) (by kernel_rfl) trivial (fun hS2 => ?_)
      have hown := HWq.out.row.drew
      have hblk : wr.drew.heap[g]? = some (.cells #[v, .int .u32 (O : Int), .int .i64 (n : Int)] 60 (0, 0)) := HWq.out.blk
      have hbd := HBq.out.drew
      have HD2 : Hid (Value.int .i64 ((d : Int) - 8) = Value.int .i64 ((T : Int) - 8 * ((q + 1 : Nat) : Int))) := by
        show _ = _
        congr 1
        have := HD.out
        omega
      have HOW := hid hown
      have HBD := hid hbd
      have HBK := hid hblk
      have hgl : g < wr.drew.heap.size := (Array.getElem?_eq_some_iff.1 hblk).1
      have d0' : wr.drew.cell? ⟨g, 0, none⟩ = some v := d0
      have d1' : wr.drew.cell? ⟨g, 1, none⟩ = some (.int .u32 (O : Int)) := d1
      have a0 : ∀ o, (wr.drew.alloc o).cell? ⟨g, 0, none⟩ = some v := fun o => (((Below.refl wr.drew.heap.size wr.drew).alloc (Nat.le_refl _) o).cell (p := ⟨g, 0, none⟩) hgl).trans d0'
      clear hown hblk hbd HWq HBq d0 d1 HD
      generalize wr.drew = wD at *
      have d0 := d0'
      have d1 := d1'
      clear d0' d1'
      refine Ord.take (i := 0) (d := 30) (v := ?v0) rfl rfl (by as_aux_lemma => kernel_rfl) (by as_aux_lemma => kernel_rfl) (by as_aux_lemma => kernel_rfl) (fun _ _ _ h => h) (by rfl) ?h0 (by assumption) ?_
      case h0 => intro w hSw; go_simp; try with_reducible rfl
      simp only [List.setIfInBounds_toArray, List.set_cons_zero, List.set_cons_succ]
      refine Ord.take (i := 1) (d := 31) (v := ?v1) rfl rfl (by as_aux_lemma => kernel_rfl) (by as_aux_lemma => kernel_rfl) (by as_aux_lemma => kernel_rfl) (fun _ _ _ h => h) (by rfl) ?h1 (by assumption) ?_
      case h1 => intro w hSw; go_simp; try with_reducible rfl
      simp only [List.setIfInBounds_toArray, List.set_cons_zero, List.set_cons_succ]
      refine Ord.take (i := 2) (d := 32) (v := ?v2) rfl rfl (by as_aux_lemma => kernel_rfl) (by as_aux_lemma => kernel_rfl) (by as_aux_lemma => kernel_rfl) (fun _ _ _ h => h) (by rfl) ?h2 (by assumption) ?_
      case h2 => intro w hSw; go_simp; try with_reducible rfl
      simp only [List.setIfInBounds_toArray, List.set_cons_zero, List.set_cons_succ]
      refine Ord.take (i := 3) (d := 33) (v := ?v3) rfl rfl (by as_aux_lemma => kernel_rfl) (by as_aux_lemma => kernel_rfl) (by as_aux_lemma => kernel_rfl) (fun _ _ _ h => h) (by rfl) ?h3 (by assumption) ?_
      case h3 => intro w hSw; go_simp; try with_reducible rfl
      simp only [List.setIfInBounds_toArray, List.set_cons_zero, List.set_cons_succ]
      refine Ord.take (i := 5) (d := 35) (v := ?v5) rfl rfl (by as_aux_lemma => kernel_rfl) (by as_aux_lemma => kernel_rfl) (by as_aux_lemma => kernel_rfl) (fun _ _ _ h => h) (by rfl) ?h5 (by assumption) ?_
      case h5 => intro w hSw; go_simp; try with_reducible rfl
      simp only [List.setIfInBounds_toArray, List.set_cons_zero, List.set_cons_succ]
      refine Ord.take (i := 6) (d := 36) (v := ?v6) rfl rfl (by as_aux_lemma => kernel_rfl) (by as_aux_lemma => kernel_rfl) (by as_aux_lemma => kernel_rfl) (fun _ _ _ h => h) (by rfl) ?h6 (by assumption) ?_
      case h6 => intro w hSw; go_simp; try with_reducible rfl
      simp only [List.setIfInBounds_toArray, List.set_cons_zero, List.set_cons_succ]
      refine Ord.take (i := 7) (d := 37) (v := ?v7) rfl rfl (by as_aux_lemma => kernel_rfl) (by as_aux_lemma => kernel_rfl) (by as_aux_lemma => kernel_rfl) (fun _ _ _ h => h) (by rfl) ?h7 (by assumption) ?_
      case h7 => intro w hSw; go_simp; try with_reducible rfl
      simp only [List.setIfInBounds_toArray, List.set_cons_zero, List.set_cons_succ]
      refine Ord.take (i := 9) (d := 39) (v := ?v9) rfl rfl (by as_aux_lemma => kernel_rfl) (by as_aux_lemma => kernel_rfl) (by as_aux_lemma => kernel_rfl) (fun _ _ _ h => h) (by rfl) ?h9 (by assumption) ?_
      case h9 => intro w hSw; go_simp; try with_reducible rfl
      simp only [List.setIfInBounds_toArray, List.set_cons_zero, List.set_cons_succ]
      refine Ord.take (i := 10) (d := 40) (v := .int .i64 ((d : Int) - 8)) rfl rfl (by as_aux_lemma => kernel_rfl) (by as_aux_lemma => kernel_rfl) (by as_aux_lemma => kernel_rfl) (fun _ _ _ h => h) (by rfl) ?h10 (by assumption) ?_
      case h10 => intro w hSw; go_simp; exact HWR.out
      simp only [List.setIfInBounds_toArray, List.set_cons_zero, List.set_cons_succ]
      refine wpAnyH_ready (rs := [4, 8]) (by as_aux_lemma => kernel_rfl) (by simp) (AllReadyH.cons rfl (fun K hK => ?_) (AllReadyH.cons rfl (fun K hK => ?_) AllReadyH.nil))
      · clear a0
        go_simp
        refine hK.out _ _ trivial (fun _ => ?_)
        clear hK K
        refine wpAnyH_ready (rs := [8]) (by as_aux_lemma => kernel_rfl) (by simp) (AllReadyH.cons rfl (fun K hK => ?_) AllReadyH.nil)
        go_simp
        refine hK.out _ _ trivial (fun _ => ?_)
        clear hK K
        refine Ord.take (i := 11) (d := 41) (v := .int .u32 (y : Int)) rfl rfl (by as_aux_lemma => kernel_rfl) (by as_aux_lemma => kernel_rfl) (by as_aux_lemma => kernel_rfl) (fun _ _ _ h => h) (by rfl) ?h11 (by assumption) ?_
        case h11 => intro w hSw; go_simp; exact HSH.out
        simp only [List.setIfInBounds_toArray, List.set_cons_zero, List.set_cons_succ]
        refine Ord.take (i := 12) (d := 42) (v := .int .u8 x) rfl rfl (by as_aux_lemma => kernel_rfl) (by as_aux_lemma => kernel_rfl) (by as_aux_lemma => kernel_rfl) (fun _ _ _ h => h) (by rfl) ?h12 (by assumption) ?_
        case h12 => intro w hSw; go_simp; exact HCV.out
        simp only [List.setIfInBounds_toArray, List.set_cons_zero, List.set_cons_succ]
        refine wpAnyH_ready (rs := [13]) (by as_aux_lemma => kernel_rfl) (by simp) (AllReadyH.cons rfl (fun K hK => ?_) AllReadyH.nil)
        go_simp
        refine hK.out _ _ trivial (fun _ => ?_)
        clear hK K
        refine wpAnyH_ready (rs := [14]) (by as_aux_lemma => kernel_rfl) (by simp) (AllReadyH.cons rfl (fun K hK => ?_) AllReadyH.nil)
        refine wp_app_one _ (.tmp 34) (.tmp 43) rfl (g + 1) v (L.take q) x rfl (HOW.out.alloc _) wD.heap.size rfl (one_cell wD _) (by rw [HLN.out]; omega) (by simp; omega) ?_
        intro v2 w2 hown2 hg2
        obtain ⟨a2, m2, cp2, hv2⟩ := own_slice hown2
        subst hv2
        refine hK.out _ _ trivial (fun _ => ?_)
        clear hK K
        have hb2 : Below (g + 1) wD w2 := ((Below.refl (g + 1) wD).alloc (by omega) _).grown hg2 (by simp; omega) (fun j hj => (HOW.out.lt j hj).1)
        have hk2 : w2.heap[g]? = some (.cells #[v, .int .u32 (O : Int), .int .i64 (n : Int)] 60 (0, 0)) := by rw [hb2.block g (by omega)]; exact HBK.out
        have c0 := Joins.cell_of_block hk2 0
        have f0 := Joins.unfrozen_of_block hk2 0
        simp at c0
        have hB2 : Below g w w2 := HBD.out.trans (hb2.mono (by omega))
        have hw3 : Wr (w2.setCell ⟨g, 0, none⟩ (.slice a2 m2 cp2)) g (L.take (q + 1)) O n (.slice a2 m2 cp2) := by
          refine ⟨by rw [Joins.block_setCell hk2]; rfl, ?_⟩
          rw [HLQ.out]
          exact ownsRow_setCell_other hown2 (own_ne hown2) _
        have HW3 := hid hw3
        have HB3 := hid (hB2.setCell (show g ≤ (Addr.mk g 0 none).block from Nat.le_refl g) (.slice a2 m2 cp2))
        clear hw3 hB2 hown2 hg2 hb2 hk2
        refine Ord.put (d := 44) rfl ?_
        simp only [List.setIfInBounds_toArray, List.set_cons_zero, List.set_cons_succ]
        refine Ord.take (i := 15) (d := 45) (v := ?v15) rfl rfl (by as_aux_lemma => kernel_rfl) (by as_aux_lemma => kernel_rfl) (by as_aux_lemma => kernel_rfl) (fun _ _ _ h => h) (by rfl) ?h15 (by assumption) ?_
        case h15 => intro w hSw; go_simp; try with_reducible rfl
        simp only [List.setIfInBounds_toArray, List.set_cons_zero, List.set_cons_succ]
        refine Ord.take (i := 16) (d := 46) (v := ?v16) rfl rfl (by as_aux_lemma => kernel_rfl) (by as_aux_lemma => kernel_rfl) (by as_aux_lemma => kernel_rfl) (fun _ _ _ h => h) (by rfl) ?h16 (by assumption) ?_
        case h16 => intro w hSw; go_simp; try with_reducible rfl
        simp only [List.setIfInBounds_toArray, List.set_cons_zero, List.set_cons_succ]
        refine wpAnyH_ready (rs := [17]) (by as_aux_lemma => kernel_rfl) (by simp) (AllReadyH.cons rfl (fun K hK => ?_) AllReadyH.nil)
        go_simp
        refine hK.out _ _ trivial (fun _ => ?_)
        clear hK K
        refine wpAnyH_done (by as_aux_lemma => kernel_rfl) ?_ _
        generalize w2.setCell ⟨g, 0, none⟩ (.slice a2 m2 cp2) = w3 at *
        clear c0 f0 d0 d1
        go_wp2
        go_roundw
        case rel => exact ⟨q + 1, by omega, by omega, by rw [HD2.out], ⟨_, HW3.out⟩, HB3.out⟩
        case measure => simp [intOf]; omega
      · skip
        go_simp
        refine hK.out _ _ trivial (fun _ => ?_)
        clear hK K
        refine Ord.take (i := 11) (d := 41) (v := .int .u32 (y : Int)) rfl rfl (by as_aux_lemma => kernel_rfl) (by as_aux_lemma => kernel_rfl) (by as_aux_lemma => kernel_rfl) (fun _ _ _ h => h) (by rfl) ?h11 (by assumption) ?_
        case h11 => intro w hSw; go_simp; exact HSH.out
        simp only [List.setIfInBounds_toArray, List.set_cons_zero, List.set_cons_succ]
        refine Ord.take (i := 12) (d := 42) (v := .int .u8 x) rfl rfl (by as_aux_lemma => kernel_rfl) (by as_aux_lemma => kernel_rfl) (by as_aux_lemma => kernel_rfl) (fun _ _ _ h => h) (by rfl) ?h12 (by assumption) ?_
        case h12 => intro w hSw; go_simp; exact HCV.out
        simp only [List.setIfInBounds_toArray, List.set_cons_zero, List.set_cons_succ]
        refine wpAnyH_ready (rs := [4, 13]) (by as_aux_lemma => kernel_rfl) (by simp) (AllReadyH.cons rfl (fun K hK => ?_) (AllReadyH.cons rfl (fun K hK => ?_) AllReadyH.nil))
        · clear a0
          go_simp
          refine hK.out _ _ trivial (fun _ => ?_)
          clear hK K
          refine wpAnyH_ready (rs := [13]) (by as_aux_lemma => kernel_rfl) (by simp) (AllReadyH.cons rfl (fun K hK => ?_) AllReadyH.nil)
          go_simp
          refine hK.out _ _ trivial (fun _ => ?_)
          clear hK K
          refine wpAnyH_ready (rs := [14]) (by as_aux_lemma => kernel_rfl) (by simp) (AllReadyH.cons rfl (fun K hK => ?_) AllReadyH.nil)
          refine wp_app_one _ (.tmp 34) (.tmp 43) rfl (g + 1) v (L.take q) x rfl (HOW.out.alloc _) wD.heap.size rfl (one_cell wD _) (by rw [HLN.out]; omega) (by simp; omega) ?_
          intro v2 w2 hown2 hg2
          obtain ⟨a2, m2, cp2, hv2⟩ := own_slice hown2
          subst hv2
          refine hK.out _ _ trivial (fun _ => ?_)
          clear hK K
          have hb2 : Below (g + 1) wD w2 := ((Below.refl (g + 1) wD).alloc (by omega) _).grown hg2 (by simp; omega) (fun j hj => (HOW.out.lt j hj).1)
          have hk2 : w2.heap[g]? = some (.cells #[v, .int .u32 (O : Int), .int .i64 (n : Int)] 60 (0, 0)) := by rw [hb2.block g (by omega)]; exact HBK.out
          have c0 := Joins.cell_of_block hk2 0
          have f0 := Joins.unfrozen_of_block hk2 0
          simp at c0
          have hB2 : Below g w w2 := HBD.out.trans (hb2.mono (by omega))
          have hw3 : Wr (w2.setCell ⟨g, 0, none⟩ (.slice a2 m2 cp2)) g (L.take (q + 1)) O n (.slice a2 m2 cp2) := by
            refine ⟨by rw [Joins.block_setCell hk2]; rfl, ?_⟩
            rw [HLQ.out]
            exact ownsRow_setCell_other hown2 (own_ne hown2) _
          have HW3 := hid hw3
          have HB3 := hid (hB2.setCell (show g ≤ (Addr.mk g 0 none).block from Nat.le_refl g) (.slice a2 m2 cp2))
          clear hw3 hB2 hown2 hg2 hb2 hk2
          refine Ord.put (d := 44) rfl ?_
          simp only [List.setIfInBounds_toArray, List.set_cons_zero, List.set_cons_succ]
          refine Ord.take (i := 15) (d := 45) (v := ?v15) rfl rfl (by as_aux_lemma => kernel_rfl) (by as_aux_lemma => kernel_rfl) (by as_aux_lemma => kernel_rfl) (fun _ _ _ h => h) (by rfl) ?h15 (by assumption) ?_
          case h15 => intro w hSw; go_simp; try with_reducible rfl
          simp only [List.setIfInBounds_toArray, List.set_cons_zero, List.set_cons_succ]
          refine Ord.take (i := 16) (d := 46) (v := ?v16) rfl rfl (by as_aux_lemma => kernel_rfl) (by as_aux_lemma => kernel_rfl) (by as_aux_lemma => kernel_rfl) (fun _ _ _ h => h) (by rfl) ?h16 (by assumption) ?_
          case h16 => intro w hSw; go_simp; try with_reducible rfl
          simp only [List.setIfInBounds_toArray, List.set_cons_zero, List.set_cons_succ]
          refine wpAnyH_ready (rs := [17]) (by as_aux_lemma => kernel_rfl) (by simp) (AllReadyH.cons rfl (fun K hK => ?_) AllReadyH.nil)
          go_simp
          refine hK.out _ _ trivial (fun _ => ?_)
          clear hK K
          refine wpAnyH_done (by as_aux_lemma => kernel_rfl) ?_ _
          generalize w2.setCell ⟨g, 0, none⟩ (.slice a2 m2 cp2) = w3 at *
          clear c0 f0 d0 d1
          go_wp2
          go_roundw
          case rel => exact ⟨q + 1, by omega, by omega, by rw [HD2.out], ⟨_, HW3.out⟩, HB3.out⟩
          case measure => simp [intOf]; omega
        · skip
          go_simp
          refine hK.out _ _ trivial (fun _ => ?_)
          clear hK K
          have a1 := a0 (.cells #[.int .u8 x] 5)
          clear a0
          refine wpAnyH_ready (rs := [4]) (by as_aux_lemma => kernel_rfl) (by simp) (AllReadyH.cons rfl (fun K hK => ?_) AllReadyH.nil)
          go_simp
          refine hK.out _ _ trivial (fun _ => ?_)
          clear hK K
          refine wpAnyH_ready (rs := [14]) (by as_aux_lemma => kernel_rfl) (by simp) (AllReadyH.cons rfl (fun K hK => ?_) AllReadyH.nil)
          refine wp_app_one _ (.tmp 34) (.tmp 43) rfl (g + 1) v (L.take q) x rfl (HOW.out.alloc _) wD.heap.size rfl (one_cell wD _) (by rw [HLN.out]; omega) (by simp; omega) ?_
          intro v2 w2 hown2 hg2
          obtain ⟨a2, m2, cp2, hv2⟩ := own_slice hown2
          subst hv2
          refine hK.out _ _ trivial (fun _ => ?_)
          clear hK K
          have hb2 : Below (g + 1) wD w2 := ((Below.refl (g + 1) wD).alloc (by omega) _).grown hg2 (by simp; omega) (fun j hj => (HOW.out.lt j hj).1)
          have hk2 : w2.heap[g]? = some (.cells #[v, .int .u32 (O : Int), .int .i64 (n : Int)] 60 (0, 0)) := by rw [hb2.block g (by omega)]; exact HBK.out
          have c0 := Joins.cell_of_block hk2 0
          have f0 := Joins.unfrozen_of_block hk2 0
          simp at c0
          have hB2 : Below g w w2 := HBD.out.trans (hb2.mono (by omega))
          have hw3 : Wr (w2.setCell ⟨g, 0, none⟩ (.slice a2 m2 cp2)) g (L.take (q + 1)) O n (.slice a2 m2 cp2) := by
            refine ⟨by rw [Joins.block_setCell hk2]; rfl, ?_⟩
            rw [HLQ.out]
            exact ownsRow_setCell_other hown2 (own_ne hown2) _
          have HW3 := hid hw3
          have HB3 := hid (hB2.setCell (show g ≤ (Addr.mk g 0 none).block from Nat.le_refl g) (.slice a2 m2 cp2))
          clear hw3 hB2 hown2 hg2 hb2 hk2
          refine Ord.put (d := 44) rfl ?_
          simp only [List.setIfInBounds_toArray, List.set_cons_zero, List.set_cons_succ]
          refine Ord.take (i := 15) (d := 45) (v := ?v15) rfl rfl (by as_aux_lemma => kernel_rfl) (by as_aux_lemma => kernel_rfl) (by as_aux_lemma => kernel_rfl) (fun _ _ _ h => h) (by rfl) ?h15 (by assumption) ?_
          case h15 => intro w hSw; go_simp; try with_reducible rfl
          simp only [List.setIfInBounds_toArray, List.set_cons_zero, List.set_cons_succ]
          refine Ord.take (i := 16) (d := 46) (v := ?v16) rfl rfl (by as_aux_lemma => kernel_rfl) (by as_aux_lemma => kernel_rfl) (by as_aux_lemma => kernel_rfl) (fun _ _ _ h => h) (by rfl) ?h16 (by assumption) ?_
          case h16 => intro w hSw; go_simp; try with_reducible rfl
          simp only [List.setIfInBounds_toArray, List.set_cons_zero, List.set_cons_succ]
          refine wpAnyH_ready (rs := [17]) (by as_aux_lemma => kernel_rfl) (by simp) (AllReadyH.cons rfl (fun K hK => ?_) AllReadyH.nil)
          go_simp
          refine hK.out _ _ trivial (fun _ => ?_)
          clear hK K
          refine wpAnyH_done (by as_aux_lemma => kernel_rfl) ?_ _
          generalize w2.setCell ⟨g, 0, none⟩ (.slice a2 m2 cp2) = w3 at *
          clear c0 f0 d0 d1 a1
          go_wp2
          go_roundw
          case rel => exact ⟨q + 1, by omega, by omega, by rw [HD2.out], ⟨_, HW3.out⟩, HB3.out⟩
          case measure => simp [intOf]; omega
    · obtain rfl : q = T / 8 := by omega
      rw [show L.take (T / 8) = L from by rw [← HFL.out]; exact List.take_length] at hWq
      have d2 := Joins.cell_of_block hWq.blk 2
      have f2 := Joins.unfrozen_of_block hWq.blk 2
      simp at d2
      have HX := hid (hWq.num T)
      have HB := hid (hbel.setCell (show g ≤ (Addr.mk g 2 none).block from Nat.le_refl g) (.int .i64 (T : Int)))
      have HN : Hid ((n : Int) + (len : Int) = (T : Int)) := by show _ = _; rw [HTT.out]; simp
      have h8 : ¬ (8 : Int) ≤ (T : Int) - 8 * ((T / 8 : Nat) : Int) := by omega
      clear hWq hbel
      generalize (T : Int) - 8 * ((T / 8 : Nat) : Int) = dd at *
      go_wp2
      go_end0
      rw [HN.out]
      exact ⟨rfl, ⟨_, HX.out⟩, HB.out⟩
end Go.Proofs.Ytgecoiakhmnilab
/-
  The contract of the document's Check.
-/
namespace Go.Proofs.Ytgecoiakhmnilab
open Go.RowKit Hf

theorem checkF_long (zs : List Int) (h : 512 < zs.length) : checkF zs = 51 := by
  have hb : checkB zs = false := by
    unfold checkB lenOk
    simp [show ¬ zs.length ≤ 512 from by omega]
  unfold checkF; rw [hb]; rfl
theorem checkF_bad (zs : List Int) (k : Nat) (hk : k < zs.length) (h : ¬ (0 ≤ zs.getD k 0 ∧ zs.getD k 0 ≤ 15)) : checkF zs = 51 := by
  unfold checkF; rw [not_ok zs k hk h]; rfl

theorem checkr_long (a : Option Addr) (cap : Nat) (zs : List Int) (w : World) (h : 512 < zs.length) :
    Calls Try.prog 25 #[.slice a zs.length cap] w fun e w' => e = .returned (.int .i64 (checkF zs)) ∧ w' = w := by
  rw [checkF_long zs h]
  generalize zs.length = len at *
  go_enter Try.func25, Try.ntmps25
  go_wp2
  go_ret
  exact ⟨rfl, rfl⟩

theorem pow_up (n m : Nat) (h : n < m) : 2 ^ (m - n) = 2 ^ (m - (n + 1)) * 2 := by
  rw [show m - n = (m - (n + 1)) + 1 from by omega, Nat.pow_succ]

set_option maxHeartbeats 1600000 in
set_option maxRecDepth 100000 in
theorem checkr_short (a : Option Addr) (cap : Nat) (zs : List Int) (w : World) (hr : Ri w .i64 a cap zs) (h : zs.length ≤ 512) :
    Calls Try.prog 25 #[.slice a zs.length cap] w fun e w' => e = .returned (.int .i64 (checkF zs)) ∧ w' = w := by
  have HR := hid hr
  obtain ⟨len, hlen⟩ : ∃ n, n = zs.length := ⟨_, rfl⟩
  have HL := hid hlen
  rw [← hlen] at h ⊢
  clear hr hlen
  go_enter Try.func25, Try.ntmps25
  go_wp2
  go_loop [3, 4, 5, 6] (fun s3 s4 s5 i => ∃ k : Nat, k ≤ len ∧ i = .int .i64 k ∧ s3 = .int .i64 ((sumR (zs.take k) : Nat) : Int) ∧ s4 = .int .i64 ((someR (zs.take k) : Nat) : Int) ∧ s5 = .int .i64 ((oneR (zs.take k) : Nat) : Int) ∧ Hid (∀ j, j < k → 0 ≤ zs.getD j 0 ∧ zs.getD j 0 ≤ 15)) (fun _ _ _ i => len - (intOf i).toNat)
  case atStart => exact ⟨0, by omega, rfl, by simp [sumR], by simp [someR], by simp [oneR], fun j hj => absurd hj (by omega)⟩
  case round =>
    obtain ⟨k, hk, rfl, rfl, rfl, rfl, HA⟩ := hrel
    by_cases hlt : k < len
    · have hkl : (k : Int) < (len : Int) := by omega
      obtain ⟨b, off, rfl, hbw, hc⟩ := (HR.out).cells (by rw [← HL.out]; omega)
      have ck : w.cell? ⟨b, off + k, none⟩ = some (.int .i64 (zs.getD k 0)) := hc k (by rw [← HL.out]; exact hlt)
      clear hc
      have HZ : Hid (k < zs.length) := by show _ < _; rw [← HL.out]; exact hlt
      by_cases hbad : 0 ≤ zs.getD k 0 ∧ zs.getD k 0 ≤ 15
      · have HA2 : Hid (∀ j, j < k + 1 → 0 ≤ zs.getD j 0 ∧ zs.getD j 0 ≤ 15) := fun j hj => by
          by_cases e : j = k
          · subst e; exact hbad
          · exact HA.out j (by omega)
        have S1 := hid (sumR_snoc (zs.take k) (zs.getD k 0))
        have S2 := hid (someR_snoc (zs.take k) (zs.getD k 0))
        have S3 := hid (oneR_snoc (zs.take k) (zs.getD k 0))
        rw [← take_snoc zs k HZ.out] at S1 S2 S3
        have hs1 := sumR_le (zs.take k)
        have hs2 : someR (zs.take k) ≤ (zs.take k).length := List.countP_le_length
        have hs3 : oneR (zs.take k) ≤ (zs.take k).length := List.countP_le_length
        have hl2 : (zs.take k).length ≤ 512 := by rw [List.length_take]; omega
        generalize (zs.take k).length = tl at *
        generalize sumR (zs.take k) = a1 at *
        generalize someR (zs.take k) = a2 at *
        generalize oneR (zs.take k) = a3 at *
        by_cases hz : 0 < zs.getD k 0
        · obtain ⟨l, hlz⟩ : ∃ l : Nat, zs.getD k 0 = (l : Int) := ⟨(zs.getD k 0).toNat, by omega⟩
          rw [hlz] at ck hz hbad S1 S2 S3
          clear hlz
          rw [if_pos hz, Int.toNat_natCast] at S1
          rw [if_pos hz] at S2
          go_wp2
          go_loop [8, 9] (fun x y => ∃ (m : Nat), l ≤ m ∧ m ≤ 15 ∧ y = .int .i64 m ∧ x = .int .i64 ((2 ^ (m - l) : Nat) : Int)) (fun _ y => 15 - (intOf y).toNat)
          case atStart => exact ⟨l, by omega, by omega, rfl, by simp⟩
          case round =>
            obtain ⟨m, hm1, hm2, rfl, rfl⟩ := hrel
            have hp : 2 ^ (m - l) ≤ 2 ^ 15 := Nat.pow_le_pow_right (by decide) (by omega)
            by_cases hm : m < 15
            · have hm' : (m : Int) < 15 := by omega
              have HP : Hid (2 ^ (m + 1 - l) = 2 ^ (m - l) * 2) := by
                show _ = _
                rw [show m + 1 - l = (m - l) + 1 from by omega, Nat.pow_succ]
              generalize 2 ^ (m - l) = q at *
              go_wp2
              exact ⟨⟨m + 1, by omega, by omega, by go_num, by rw [HP.out]; simp⟩, by simp [intOf]; omega⟩
            · obtain rfl : m = 15 := by omega
              generalize 2 ^ (15 - l) = q at *
              by_cases h1 : l = 1
              · have h1' : (l : Int) = 1 := by omega
                rw [if_pos h1'] at S3
                have hb : ((l : Int) == 1) = true := by simp [h1]
                go_wp2
                exact ⟨⟨k + 1, by omega, by go_num, by rw [S1.out]; simp, by rw [S2.out]; simp, by rw [S3.out]; simp, HA2⟩, by simp [intOf]; omega⟩
              · have h1' : ¬ (l : Int) = 1 := by omega
                rw [if_neg h1'] at S3
                have hb : ((l : Int) == 1) = false := by simp; omega
                go_wp2
                exact ⟨⟨k + 1, by omega, by go_num, by rw [S1.out]; simp, by rw [S2.out]; simp, by rw [S3.out]; simp, HA2⟩, by simp [intOf]; omega⟩
        · have hz0 : zs.getD k 0 = 0 := by omega
          rw [hz0] at ck S1 S2 S3
          clear hz hz0 hbad
          go_wp2
          exact ⟨⟨k + 1, by omega, by go_num, by rw [S1.out]; simp, by rw [S2.out]; simp, by rw [S3.out]; simp, HA2⟩, by simp [intOf]; omega⟩
      · have E := hid (checkF_bad zs k HZ.out hbad)
        clear HZ
        generalize zs.getD k 0 = z at *
        by_cases hneg : z < 0
        · go_wp2
          go_ret
          exact ⟨by rw [E.out]; rfl, rfl⟩
        · have h15 : (15 : Int) < z := by omega
          clear hbad
          go_wp2
          go_ret
          exact ⟨by rw [E.out]; rfl, rfl⟩
    · obtain rfl : k = len := by omega
      have hok := ok_mk zs (by rw [← HL.out]; exact h) (fun j hj => HA.out j (by rw [HL.out]; exact hj))
      have e0 : checkF zs = if okR zs then 0 else 51 := by unfold checkF checkB; rw [hok, okR_okT hok]; rfl
      rw [show zs.take k = zs from by rw [HL.out]; exact List.take_length]
      have b1 : (((someR zs : Nat) : Int) == 0) = (someR zs == 0) := by rw [Bool.eq_iff_iff, beq_iff_eq, beq_iff_eq]; omega
      have b2 : (((someR zs : Nat) : Int) == 1) = (someR zs == 1) := by rw [Bool.eq_iff_iff, beq_iff_eq, beq_iff_eq]; omega
      have b3 : (((oneR zs : Nat) : Int) == 1) = (oneR zs == 1) := by rw [Bool.eq_iff_iff, beq_iff_eq, beq_iff_eq]; omega
      have b4 : (((sumR zs : Nat) : Int) == 32768) = (sumR zs == 32768) := by rw [Bool.eq_iff_iff, beq_iff_eq, beq_iff_eq]; omega
      unfold okR at e0
      have E := hid e0
      clear e0 hok
      generalize (someR zs == 0) = x1 at *
      generalize (someR zs == 1) = x2 at *
      generalize (oneR zs == 1) = x3 at *
      generalize (sumR zs == 32768) = x4 at *
      generalize ((someR zs : Nat) : Int) = n1 at *
      generalize ((oneR zs : Nat) : Int) = n2 at *
      generalize ((sumR zs : Nat) : Int) = n3 at *
      cases x1 <;> cases x2 <;> cases x3 <;> cases x4 <;> (go_wp2; go_ret; exact ⟨by rw [E.out]; rfl, rfl⟩)

theorem check_ref (a : Option Addr) (cap : Nat) (zs : List Int) (w : World) (hr : Ri w .i64 a cap zs) :
    Calls Try.prog 25 #[.slice a zs.length cap] w fun e w' => e = .returned (.int .i64 (checkF zs)) ∧ w' = w := by
  by_cases h : zs.length ≤ 512
  · exact checkr_short a cap zs w hr h
  · exact checkr_long a cap zs w (by omega)
end Go.Proofs.Ytgecoiakhmnilab
