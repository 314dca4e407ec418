/-
  The law's few.
-/
import Derived.Test.YtcbjlnabbfkkeaaNmQ
import Derived.Test.YtcbjlnabbfkkeaaRcOa
namespace Go.Proofs.Ytcbjlnabbfkkeaa
open Go.ChangeShapes Go.WideShapes Go.ChangeAt Go.RowKit Go.Deep Go.Lib

def cutR (r : Rec) : Rec := { r with ps := r.ps.take 40, path := cutP r.path }
theorem cut_rv {w : World} {r : Rec} (h : Rv w r) : Rv w (cutR r) := ⟨h.len, h.u8, h.seq, h.epoch, h.kind, h.site, by have := cut_len r.path; show (cutP r.path).size ≤ _; unfold maxLen; omega, h.row.take 40⟩
def fewL (l : List Rec) : List Rec := (l.take 25).map cutR
theorem fewL_len (l : List Rec) : (fewL l).length ≤ 25 := by unfold fewL; simp; omega
theorem bx_ps {w : World} {g : Nat} {r : Rec} (_ : Bx w g r) (l : List Pc) (B : Nat) (hB : B ≤ g) (W0 : World) (hW : Below B W0 w) : Below B W0 (w.setCell ⟨g, 37, none⟩ (.slice r.a l.length r.cap)) := hW.trans ((Below.refl _ w).setCell (p := ⟨g, 37, none⟩) hB _)
theorem bx_path {w : World} {g : Nat} {r : Rec} (_ : Bx w g r) (s : ByteArray) (B : Nat) (hB : B ≤ g) (W0 : World) (hW : Below B W0 w) : Below B W0 (w.setCell ⟨g, 36, none⟩ (.string s)) := hW.trans ((Below.refl _ w).setCell (p := ⟨g, 36, none⟩) hB _)
theorem wpList_load_V {P : Program} {ops : Array Oper} {rest : List Oper} {o : Oper} {a : Act} {w : World} {Q : Exit → Act → World → Prop} (hw : Region.wanted o (yielded ops a.tmps) = true) (ty : TypeId) (x : Operand) (ho : o.op = .load ty x)
    (b off : Nat) (hx : a.eval x = .pointer (some ⟨b, off, none⟩)) (cs : List Value) (d : TypeDesc) (V : World) (hV : w = V) (hc : V.rangeAt b off cs) (hu : P.underlying ty = some d) (hd : d.isRow = true) (hi : (P.info? ty).map (·.size) = some cs.length)
    (h : wpList P ops Q rest (a.put o.dst (.agg cs.toArray)) V) : wpList P ops Q (o :: rest) a w := by
  subst hV
  exact wpList_load_g hw ty x ho b off hx cs d hc hu hd hi h
set_option maxHeartbeats 6400000 in
set_option maxRecDepth 100000 in
theorem few_word (a : Option Addr) (cap : Nat) (l : List Rec) (w : World) (hr : Rr w a cap l) :
    Calls Try.prog 9 #[.slice a l.length cap] w fun e w' => ∃ a' cap', e = .returned (.slice a' (fewL l).length cap') ∧ Rr w' a' cap' (fewL l) ∧ (∀ b off, a' = some ⟨b, off, none⟩ → w.heap.size ≤ b) ∧ Below w.heap.size w w' := by
  have hroom := hr.room
  have hmost := hr.most
  unfold maxLen at hmost
  have HR := hid hr
  have HZ : Hid (∀ w, (zeroValue 36).run Try.prog w = .ok (.agg recZ.cs.toArray) w) := Try.zero36
  obtain ⟨i0, hi, hz0, hz1, hz2⟩ := info_parts Try.info36
  obtain ⟨len, hle⟩ : ∃ n, n = l.length := ⟨_, rfl⟩
  have HL := hid hle
  rw [← hle] at hroom ⊢
  clear hr hle
  go_enter Try.func9, Try.ntmps9
  go_wp2
  go_loopw [3, 4] (fun x3 x4 wr => ∃ k : Nat, k ≤ len ∧ k ≤ 25 ∧ x4 = .int .i64 (k : Int) ∧ Hid (wr.ownsRow w.heap.size 36 38 x3 ((l.take k).map cutR).length (((l.take k).map cutR).flatMap Rec.cs)) ∧ Hid (Below w.heap.size w wr)) (fun _ x4 _ => 25 - (intOf x4).toNat)
  case atStart => exact ⟨0, by omega, by omega, rfl, World.ownsRow_nil _ _ _ _, Below.refl _ _⟩
  case round =>
    obtain ⟨k, hk, hk20, rfl, HO, HB⟩ := hrel
    by_cases hlt : k < len
    · by_cases h20 : k < 25
      · have hkz : (k : Int) < (len : Int) := by omega
        have hk2 : (k : Int) < 25 := by omega
        obtain ⟨b, off, rfl, hbw, hc⟩ := HR.out.cells (by rw [← HL.out]; omega)
        have hrg := (hc k (by rw [← HL.out]; exact hlt))
        have HRG : Hid (wr.rangeAt b (off + k * 38) (l.getD k recZ).cs) := fun j v hv => (HB.out.cell (p := ⟨b, off + k * 38 + j, none⟩) hbw).trans (hrg j v hv)
        have hok := (HR.out.get (j := k) (by rw [← HL.out]; exact hlt)).later HB.out
        have HTK : Hid ((l.take (k + 1)).map cutR = (l.take k).map cutR ++ [cutR (l.getD k recZ)]) := by
          show _ = _
          have hkl : k < l.length := by rw [← HL.out]; exact hlt
          have e : l.take (k + 1) = l.take k ++ [l.getD k recZ] := by
            rw [List.take_add_one]
            simp [List.getD, List.getElem?_eq_getElem hkl]
          rw [e, List.map_append]
          rfl
        have HTL : Hid (((l.take k).map cutR).length = k) := by show _ = _; simp; rw [← HL.out]; omega
        generalize l.getD k recZ = x at *
        have HLX := hid (Rec.cs_len hok.len)
        have HSX := hid (size_recs hok.len)
        have HZX : Hid (recZ.cs.toArray.size = x.cs.toArray.size) := by show _ = _; rw [Rec.cs_size hok.len]; rfl
        have HCL : Hid ((cutR x).prev.length = 32) := hok.len
        have HS0 : Hid (w.heap.size ≤ wr.heap.size) := HB.out.size
        have hro := hok.row.room
        have hmo := hok.row.most
        have hpa := hok.path
        have HXL := hid hok.len
        unfold maxLen at hmo hpa
        clear hrg hc hok
        go_wp2_with (first | refine wpList_load_g rfl 36 _ rfl b (off + k * 38) rfl x.cs _ HRG.out Try.underlying36 rfl (by rw [HLX.out]; exact Try.size36) ?_ | refine wpList_alloc_W rfl 36 rfl (some 5) rfl _ HZ.out wr.heap.size rfl ?_ | fail)
        intro W2 HG2 HB2 HS2
        go_wp2_with (first | refine wpList_store_W rfl 36 _ _ rfl rfl wr.heap.size x.cs.toArray rfl rfl 36 _ HG2.out HSX.out HZX.out (all_oneCell_toArray (Rec.cs_one _)) ?_ | fail)
        intro W3 HG3 HB3 HS3
        have HX3 : Hid (Bx W3 wr.heap.size x) := ⟨HG3.out, HXL.out⟩
        have HW3 : Hid (Below wr.heap.size wr W3) := HB2.out.trans (bel_grown HB3.out (Nat.le_refl _) HB2.out.size)
        have c37 := HX3.out.c37
        have u37 := Joins.unfrozen_of_block HX3.out.blk 37
        clear HG2 HB2 HS2 HG3 HB3 HS3 HRG
        by_cases h60 : 40 < x.ps.length
        · have hl : (x.ps.take 40).length = 40 := by simp; omega
          have C1 := HX3.out.setPs (x.ps.take 40)
          have B1 := bx_ps HX3.out (x.ps.take 40) wr.heap.size (Nat.le_refl _) wr HW3.out
          rw [hl] at C1 B1
          have HC1 := hid C1
          have HB1 := hid B1
          have c36 : _ = some (Value.string x.path) := C1.c36
          have u36 := Joins.unfrozen_of_block C1.blk 36
          clear C1 B1
          by_cases h300 : 300 < x.path.size
          · have HQ : Hid (cutR x = { x with ps := x.ps.take 40, path := x.path.extract 0 300 }) := by show _ = _; unfold cutR cutP; rw [if_pos h300]
            have CC := HC1.out.setPath (x.path.extract 0 300)
            have hbx := bx_path HC1.out (x.path.extract 0 300) wr.heap.size (Nat.le_refl _) wr HB1.out
            obtain ⟨R, hR⟩ : ∃ R, R = cutR x := ⟨_, rfl⟩
            obtain ⟨V, hV⟩ : ∃ V, V = (W3.setCell ⟨wr.heap.size, 37, none⟩ (.slice x.a 40 x.cap)).setCell ⟨wr.heap.size, 36, none⟩ (.string (x.path.extract 0 300)) := ⟨_, rfl⟩
            rw [← HQ.out, ← hR, ← hV] at CC
            rw [← hV] at hbx
            rw [← hR] at HTK HCL
            have HVE := hid hV.symm
            have HBX := hid hbx
            clear HQ hR hV hbx
            have HX := hid CC.range
            have HLL := hid (Rec.cs_len CC.len)
            clear CC
            have HO1 := hid ((own_later HO.out HBX.out).alloc (.cells R.cs.toArray 36))
            have HBA := hid (Bn HB.out (HBX.out.trans ((bel_alc V (.cells R.cs.toArray 36)).mono HBX.out.size)))
            have HNW : Hid (∀ j u, R.cs[j]? = some u → (V.alloc (.cells R.cs.toArray 36)).cell? ((⟨V.heap.size, 0, none⟩ : Addr).add j) = some u) := fun j u hu => by
              rw [add_plain, Nat.zero_add]
              exact (Joins.cell_of_block (heap_alc V _) j).trans (by rw [List.getElem?_toArray]; exact hu)
            have HS1 : Hid (w.heap.size ≤ (V.alloc (.cells R.cs.toArray 36)).heap.size) := HBA.out.size
            clear HO
            go_wp2_with (first | refine wpList_load_V rfl 36 _ rfl wr.heap.size 0 rfl R.cs _ V HVE.out HX.out Try.underlying36 rfl (by rw [HLL.out]; exact Try.size36) ?_ | refine wpList_buildOne rfl 22 36 _ rfl (some 38) rfl R.cs.toArray i0 _ Try.underlying22 hi hz0 (by rw [hz1, Rec.cs_size HCL.out]) (by rw [Rec.cs_size HCL.out]; decide) (by rw [Rec.cs_size HCL.out]; decide) rfl ?_ | (at_builtin; refine wpList_append_own _ rfl _ _ 22 rfl w.heap.size 36 i0 _ 38 104 Try.underlying22 hi hz0 hz1 hz2 rfl (by decide) _ _ _ rfl HO1.out ⟨V.heap.size, 0, none⟩ 1 1 R.cs rfl (by rw [Rec.cs_len HCL.out]) HNW.out (Rec.cs_one _) (by rw [HTL.out]; unfold maxLen; omega) (by rw [HTL.out]; omega) HS1.out ?_))
            intro v2 W4 ho2 hg2 _
            have HO2 : Hid (W4.ownsRow w.heap.size 36 38 v2 ((l.take (k + 1)).map cutR).length (((l.take (k + 1)).map cutR).flatMap Rec.cs)) := by
              show World.ownsRow _ _ _ _ _ _ _
              rw [HTK.out, List.length_append, List.flatMap_append]
              simpa using ho2
            have HB4 : Hid (Below w.heap.size w W4) := HBA.out.trans ((Below.refl _ _).grown hg2 HS1.out (fun j hj => (HO1.out.lt j hj).1))
            clear ho2 hg2 HO1 HNW
            go_wp2
            go_round
            case rel => exact ⟨k + 1, by omega, by omega, by go_num, HO2.out, HB4.out⟩
            case measure => simp [intOf]; omega
          · have HQ : Hid (cutR x = { x with ps := x.ps.take 40 }) := by show _ = _; unfold cutR cutP; rw [if_neg h300]
            have CC := HC1.out
            have hbx := HB1.out
            obtain ⟨R, hR⟩ : ∃ R, R = cutR x := ⟨_, rfl⟩
            obtain ⟨V, hV⟩ : ∃ V, V = W3.setCell ⟨wr.heap.size, 37, none⟩ (.slice x.a 40 x.cap) := ⟨_, rfl⟩
            rw [← HQ.out, ← hR, ← hV] at CC
            rw [← hV] at hbx
            rw [← hR] at HTK HCL
            have HVE := hid hV.symm
            have HBX := hid hbx
            clear HQ hR hV hbx
            have HX := hid CC.range
            have HLL := hid (Rec.cs_len CC.len)
            clear CC
            have HO1 := hid ((own_later HO.out HBX.out).alloc (.cells R.cs.toArray 36))
            have HBA := hid (Bn HB.out (HBX.out.trans ((bel_alc V (.cells R.cs.toArray 36)).mono HBX.out.size)))
            have HNW : Hid (∀ j u, R.cs[j]? = some u → (V.alloc (.cells R.cs.toArray 36)).cell? ((⟨V.heap.size, 0, none⟩ : Addr).add j) = some u) := fun j u hu => by
              rw [add_plain, Nat.zero_add]
              exact (Joins.cell_of_block (heap_alc V _) j).trans (by rw [List.getElem?_toArray]; exact hu)
            have HS1 : Hid (w.heap.size ≤ (V.alloc (.cells R.cs.toArray 36)).heap.size) := HBA.out.size
            clear HO
            go_wp2_with (first | refine wpList_load_V rfl 36 _ rfl wr.heap.size 0 rfl R.cs _ V HVE.out HX.out Try.underlying36 rfl (by rw [HLL.out]; exact Try.size36) ?_ | refine wpList_buildOne rfl 22 36 _ rfl (some 38) rfl R.cs.toArray i0 _ Try.underlying22 hi hz0 (by rw [hz1, Rec.cs_size HCL.out]) (by rw [Rec.cs_size HCL.out]; decide) (by rw [Rec.cs_size HCL.out]; decide) rfl ?_ | (at_builtin; refine wpList_append_own _ rfl _ _ 22 rfl w.heap.size 36 i0 _ 38 104 Try.underlying22 hi hz0 hz1 hz2 rfl (by decide) _ _ _ rfl HO1.out ⟨V.heap.size, 0, none⟩ 1 1 R.cs rfl (by rw [Rec.cs_len HCL.out]) HNW.out (Rec.cs_one _) (by rw [HTL.out]; unfold maxLen; omega) (by rw [HTL.out]; omega) HS1.out ?_))
            intro v2 W4 ho2 hg2 _
            have HO2 : Hid (W4.ownsRow w.heap.size 36 38 v2 ((l.take (k + 1)).map cutR).length (((l.take (k + 1)).map cutR).flatMap Rec.cs)) := by
              show World.ownsRow _ _ _ _ _ _ _
              rw [HTK.out, List.length_append, List.flatMap_append]
              simpa using ho2
            have HB4 : Hid (Below w.heap.size w W4) := HBA.out.trans ((Below.refl _ _).grown hg2 HS1.out (fun j hj => (HO1.out.lt j hj).1))
            clear ho2 hg2 HO1 HNW
            go_wp2
            go_round
            case rel => exact ⟨k + 1, by omega, by omega, by go_num, HO2.out, HB4.out⟩
            case measure => simp [intOf]; omega
        · have hl : x.ps.take 40 = x.ps := List.take_of_length_le (by omega)
          have c36 : _ = some (Value.string x.path) := HX3.out.c36
          have u36 := Joins.unfrozen_of_block HX3.out.blk 36
          by_cases h300 : 300 < x.path.size
          · have HQ : Hid (cutR x = { x with path := x.path.extract 0 300 }) := by show _ = _; unfold cutR cutP; rw [if_pos h300, hl]
            have CC := HX3.out.setPath (x.path.extract 0 300)
            have hbx := bx_path HX3.out (x.path.extract 0 300) wr.heap.size (Nat.le_refl _) wr HW3.out
            obtain ⟨R, hR⟩ : ∃ R, R = cutR x := ⟨_, rfl⟩
            obtain ⟨V, hV⟩ : ∃ V, V = W3.setCell ⟨wr.heap.size, 36, none⟩ (.string (x.path.extract 0 300)) := ⟨_, rfl⟩
            rw [← HQ.out, ← hR, ← hV] at CC
            rw [← hV] at hbx
            rw [← hR] at HTK HCL
            have HVE := hid hV.symm
            have HBX := hid hbx
            clear HQ hR hV hbx
            have HX := hid CC.range
            have HLL := hid (Rec.cs_len CC.len)
            clear CC
            have HO1 := hid ((own_later HO.out HBX.out).alloc (.cells R.cs.toArray 36))
            have HBA := hid (Bn HB.out (HBX.out.trans ((bel_alc V (.cells R.cs.toArray 36)).mono HBX.out.size)))
            have HNW : Hid (∀ j u, R.cs[j]? = some u → (V.alloc (.cells R.cs.toArray 36)).cell? ((⟨V.heap.size, 0, none⟩ : Addr).add j) = some u) := fun j u hu => by
              rw [add_plain, Nat.zero_add]
              exact (Joins.cell_of_block (heap_alc V _) j).trans (by rw [List.getElem?_toArray]; exact hu)
            have HS1 : Hid (w.heap.size ≤ (V.alloc (.cells R.cs.toArray 36)).heap.size) := HBA.out.size
            clear HO
            go_wp2_with (first | refine wpList_load_V rfl 36 _ rfl wr.heap.size 0 rfl R.cs _ V HVE.out HX.out Try.underlying36 rfl (by rw [HLL.out]; exact Try.size36) ?_ | refine wpList_buildOne rfl 22 36 _ rfl (some 38) rfl R.cs.toArray i0 _ Try.underlying22 hi hz0 (by rw [hz1, Rec.cs_size HCL.out]) (by rw [Rec.cs_size HCL.out]; decide) (by rw [Rec.cs_size HCL.out]; decide) rfl ?_ | (at_builtin; refine wpList_append_own _ rfl _ _ 22 rfl w.heap.size 36 i0 _ 38 104 Try.underlying22 hi hz0 hz1 hz2 rfl (by decide) _ _ _ rfl HO1.out ⟨V.heap.size, 0, none⟩ 1 1 R.cs rfl (by rw [Rec.cs_len HCL.out]) HNW.out (Rec.cs_one _) (by rw [HTL.out]; unfold maxLen; omega) (by rw [HTL.out]; omega) HS1.out ?_))
            intro v2 W4 ho2 hg2 _
            have HO2 : Hid (W4.ownsRow w.heap.size 36 38 v2 ((l.take (k + 1)).map cutR).length (((l.take (k + 1)).map cutR).flatMap Rec.cs)) := by
              show World.ownsRow _ _ _ _ _ _ _
              rw [HTK.out, List.length_append, List.flatMap_append]
              simpa using ho2
            have HB4 : Hid (Below w.heap.size w W4) := HBA.out.trans ((Below.refl _ _).grown hg2 HS1.out (fun j hj => (HO1.out.lt j hj).1))
            clear ho2 hg2 HO1 HNW
            go_wp2
            go_round
            case rel => exact ⟨k + 1, by omega, by omega, by go_num, HO2.out, HB4.out⟩
            case measure => simp [intOf]; omega
          · have HQ : Hid (cutR x = x) := by show _ = _; unfold cutR cutP; rw [if_neg h300, hl]
            have CC := HX3.out
            have hbx := HW3.out
            obtain ⟨R, hR⟩ : ∃ R, R = cutR x := ⟨_, rfl⟩
            obtain ⟨V, hV⟩ : ∃ V, V = W3 := ⟨_, rfl⟩
            rw [← HQ.out, ← hR, ← hV] at CC
            rw [← hV] at hbx
            rw [← hR] at HTK HCL
            have HVE := hid hV.symm
            have HBX := hid hbx
            clear HQ hR hV hbx
            have HX := hid CC.range
            have HLL := hid (Rec.cs_len CC.len)
            clear CC
            have HO1 := hid ((own_later HO.out HBX.out).alloc (.cells R.cs.toArray 36))
            have HBA := hid (Bn HB.out (HBX.out.trans ((bel_alc V (.cells R.cs.toArray 36)).mono HBX.out.size)))
            have HNW : Hid (∀ j u, R.cs[j]? = some u → (V.alloc (.cells R.cs.toArray 36)).cell? ((⟨V.heap.size, 0, none⟩ : Addr).add j) = some u) := fun j u hu => by
              rw [add_plain, Nat.zero_add]
              exact (Joins.cell_of_block (heap_alc V _) j).trans (by rw [List.getElem?_toArray]; exact hu)
            have HS1 : Hid (w.heap.size ≤ (V.alloc (.cells R.cs.toArray 36)).heap.size) := HBA.out.size
            clear HO
            go_wp2_with (first | refine wpList_load_V rfl 36 _ rfl wr.heap.size 0 rfl R.cs _ V HVE.out HX.out Try.underlying36 rfl (by rw [HLL.out]; exact Try.size36) ?_ | refine wpList_buildOne rfl 22 36 _ rfl (some 38) rfl R.cs.toArray i0 _ Try.underlying22 hi hz0 (by rw [hz1, Rec.cs_size HCL.out]) (by rw [Rec.cs_size HCL.out]; decide) (by rw [Rec.cs_size HCL.out]; decide) rfl ?_ | (at_builtin; refine wpList_append_own _ rfl _ _ 22 rfl w.heap.size 36 i0 _ 38 104 Try.underlying22 hi hz0 hz1 hz2 rfl (by decide) _ _ _ rfl HO1.out ⟨V.heap.size, 0, none⟩ 1 1 R.cs rfl (by rw [Rec.cs_len HCL.out]) HNW.out (Rec.cs_one _) (by rw [HTL.out]; unfold maxLen; omega) (by rw [HTL.out]; omega) HS1.out ?_))
            intro v2 W4 ho2 hg2 _
            have HO2 : Hid (W4.ownsRow w.heap.size 36 38 v2 ((l.take (k + 1)).map cutR).length (((l.take (k + 1)).map cutR).flatMap Rec.cs)) := by
              show World.ownsRow _ _ _ _ _ _ _
              rw [HTK.out, List.length_append, List.flatMap_append]
              simpa using ho2
            have HB4 : Hid (Below w.heap.size w W4) := HBA.out.trans ((Below.refl _ _).grown hg2 HS1.out (fun j hj => (HO1.out.lt j hj).1))
            clear ho2 hg2 HO1 HNW
            go_wp2
            go_round
            case rel => exact ⟨k + 1, by omega, by omega, by go_num, HO2.out, HB4.out⟩
            case measure => simp [intOf]; omega
      · have hkz : (k : Int) < (len : Int) := by omega
        have hk2 : ¬ (k : Int) < 25 := by omega
        have hke : k = 25 := by omega
        subst hke
        obtain ⟨a', cap', hv', hr', hfar⟩ := Rr.own2 HO.out (fun r q => by
          obtain ⟨y, hy, rfl⟩ := List.mem_map.1 q
          exact cut_rv ((HR.out.fits y (List.mem_of_mem_take hy)).later HB.out))
        have HRR : Hid (Rr wr a' cap' (fewL l)) := hr'
        have HFAR := hid hfar
        clear hr' hfar
        have hv2 : _ = Value.slice a' (fewL l).length cap' := hv'
        subst hv2
        clear hv'
        go_wp2
        go_ret
        exact ⟨_, _, rfl, HRR.out, HFAR.out, HB.out⟩
    · have hkl : k = len := by omega
      have hkz : ¬ (k : Int) < (len : Int) := by omega
      have HT : Hid (l.take k = l.take 25) := by
        show _ = _
        rw [List.take_of_length_le (by rw [← HL.out]; omega), List.take_of_length_le (by rw [← HL.out]; omega)]
      rw [HT.out] at HO
      obtain ⟨a', cap', hv', hr', hfar⟩ := Rr.own2 HO.out (fun r q => by
        obtain ⟨y, hy, rfl⟩ := List.mem_map.1 q
        exact cut_rv ((HR.out.fits y (List.mem_of_mem_take hy)).later HB.out))
      have HRR : Hid (Rr wr a' cap' (fewL l)) := hr'
      have HFAR := hid hfar
      clear hr' hfar
      have hv2 : _ = Value.slice a' (fewL l).length cap' := hv'
      subst hv2
      clear hv'
      go_wp2
      go_ret
      exact ⟨_, _, rfl, HRR.out, HFAR.out, HB.out⟩
end Go.Proofs.Ytcbjlnabbfkkeaa
