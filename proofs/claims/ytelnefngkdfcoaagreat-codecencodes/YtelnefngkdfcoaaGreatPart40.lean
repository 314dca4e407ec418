/-
  What SizeR lacks: the document's contracts.
-/
import Derived.Test.YtelnefngkdfcoaaGreatPart21
import Derived.Test.YtelnefngkdfcoaaGreatPart39
import Derived.Test.YtelnefngkdfcoaaGreatPart35
import Derived.Test.YtelnefngkdfcoaaGreatPart38
import Derived.Test.YtelnefngkdfcoaaGreatPart04
import Derived.Test.YtelnefngkdfcoaaGreatPart30
import Derived.Laws.AppendOwnNone
namespace Go.Proofs.YtelnefngkdfcoaaGreat
open Go.RowKit Lz

set_option maxHeartbeats 1600000 in
set_option maxRecDepth 100000 in
theorem size_ref (a : Option Addr) (cap : Nat) (l : List Tkz) (w : World) (hr : Rt w a cap l) (hn : l.length ≤ 65536) :
    Calls Tryz.prog 28 #[.slice a l.length cap] w fun e w' => e = .returned (.tuple #[.int .i64 (sizeO l).1, .int .i64 (sizeO l).2]) ∧ Below w.heap.size w w' := by
  have hroom := hr.room
  have hmost := hr.most
  unfold maxLen at hmost
  have HR := hid hr
  obtain ⟨len, hle⟩ : ∃ n, n = l.length := ⟨_, rfl⟩
  have HL := hid hle
  rw [← hle] at hn hroom ⊢
  clear hr hle
  go_enter Tryz.func28, Tryz.ntmps28
  go_wp2
  go_loopw [4] (fun x4 wr => ∃ k : Nat, k ≤ len ∧ x4 = .int .i64 (k : Int) ∧ Below w.heap.size w wr ∧ Hid (∀ j, j < k → chkZ (l.getD j tk0) = 0)) (fun x4 _ => len - (intOf x4).toNat)
  case atStart => exact ⟨0, by omega, rfl, Below.refl _ _, fun j hj => absurd hj (by omega)⟩
  case round =>
    obtain ⟨k, hk, rfl, hbel, HA⟩ := hrel
    by_cases hlt : k < len
    · have hkz : (k : Int) < (len : Int) := by omega
      obtain ⟨b, off, rfl, hbw, hc⟩ := HR.out.cells (by rw [← HL.out]; omega)
      obtain ⟨c0, c1, c2⟩ := hc k (by rw [← HL.out]; exact hlt)
      have d0 := (hbel.cell (p := ⟨b, off + k * 3, none⟩) hbw).trans c0
      have d1 := (hbel.cell (p := ⟨b, off + k * 3 + 1, none⟩) hbw).trans c1
      have d2 := (hbel.cell (p := ⟨b, off + k * 3 + 2, none⟩) hbw).trans c2
      have HCK := hid (check_refZ (l.getD k tk0) wr)
      have HNOT := hid (fun h => all_not (l := l) (k := k) (by rw [← HL.out]; exact hlt) h)
      have hor := chk_or (l.getD k tk0)
      have HAK : Hid (chkZ (l.getD k tk0) = 0 → ∀ j, j < k + 1 → chkZ (l.getD j tk0) = 0) := fun h j hj => by
        by_cases e : j = k
        · subst e; exact h
        · exact HA.out j (by omega)
      clear hc c0 c1 c2
      generalize l.getD k tk0 = t at *
      obtain ⟨d, n, x⟩ := t
      unfold zC at HCK
      dsimp only at *
      have HBL := hid hbel
      clear hbel
      go_wp2_with fail
      refine HCK.out.mono ?_
      rintro _ w2 ⟨rfl, hb2⟩
      have HB2 := hid (Bn HBL.out hb2)
      clear hb2 HCK HBL d0 d1 d2
      rcases hor with hor | hor
      · have HAK2 := hid (HAK.out hor)
        rw [hor]
        clear hor HNOT
        go_wp2
        exact ⟨⟨k + 1, by omega, by go_num, HB2.out, HAK2⟩, by simp [intOf]; omega⟩
      · have HO : Hid (sizeO l = (0, 60)) := by
          show _ = _
          unfold sizeO
          rw [HNOT.out (by omega), if_neg (by simp)]
        rw [hor]
        clear hor HNOT
        go_wp2
        go_ret2
        exact ⟨by rw [HO.out]; rfl, HB2.out⟩
    · obtain rfl : k = len := by omega
      have hkz : ¬ (k : Int) < (k : Int) := by omega
      have HAL : Hid (allB l = true) := all_of (fun j hj => HA.out j (by rw [HL.out]; exact hj))
      have HO : Hid (sizeO l = if 65536 < sumZ l then (0, 2) else (sumZ l, 0)) := by show _ = _; unfold sizeO; rw [HAL.out, if_pos rfl]
      have HSB : Hid (∀ j, 0 ≤ sumZ (l.take j) ∧ sumZ (l.take j) ≤ sumZ l ∧ sumZ (l.take j) ≤ 258 * 65536) := fun j => by
        have h1 := sum_bound (l.take j) (fun t ht => all_mem HAL.out t (List.mem_of_mem_take ht))
        have h2 := sum_take_le l (all_mem HAL.out) j
        have h3 : ((l.take j).length : Int) ≤ 65536 := by have := HL.out; simp; omega
        omega
      have HLEN : Hid (∀ j, j < l.length → 1 ≤ (l.getD j tk0).2.1 ∧ (l.getD j tk0).2.1 ≤ 258) := fun j hj => chk_len (all_mem HAL.out _ (getD_memZ l j hj))
      clear HA HAL
      go_wp2_with fail
      go_loopw [5, 6] (fun x5 x6 wi => ∃ j : Nat, j ≤ k ∧ x6 = .int .i64 (j : Int) ∧ x5 = .int .i64 (sumZ (l.take j)) ∧ Below w.heap.size w wi) (fun _ x6 _ => k - (intOf x6).toNat)
      case atStart => exact ⟨0, by omega, rfl, rfl, hbel⟩
      case round =>
        clear hbel
        obtain ⟨j, hj, rfl, rfl, hb⟩ := hrel
        obtain ⟨s1, s2, s3⟩ := HSB.out j
        by_cases hjl : j < k
        · have hjz : (j : Int) < (k : Int) := by omega
          by_cases hs : sumZ (l.take j) ≤ 65536
          · obtain ⟨b, off, rfl, hbw, hc⟩ := HR.out.cells (by rw [← HL.out]; omega)
            have d1 := (hb.cell (p := ⟨b, off + j * 3 + 1, none⟩) hbw).trans (hc j (by rw [← HL.out]; exact hjl)).2.1
            have hl1 := HLEN.out j (by rw [← HL.out]; exact hjl)
            have HS : Hid (sumZ (l.take (j + 1)) = sumZ (l.take j) + (l.getD j tk0).2.1) := by
              show _ = _
              rw [take_getD l j (by rw [← HL.out]; exact hjl), sumZ_append]
              simp [sumZ]
            clear hc
            obtain ⟨hl1, hl2⟩ := hl1
            generalize sumZ (l.take j) = s at *
            generalize (l.getD j tk0).2.1 = n at *
            go_wp2
            exact ⟨⟨j + 1, by omega, by go_num, by rw [HS.out], hb⟩, by simp [intOf]; omega⟩
          · have HO2 : Hid (sizeO l = (0, 2)) := by show _ = _; rw [HO.out, if_pos (by omega)]
            have hs2 : 65536 < sumZ (l.take j) := by omega
            generalize sumZ (l.take j) = s at *
            go_wp2
            go_ret2
            exact ⟨by rw [HO2.out]; rfl, hb⟩
        · obtain rfl : j = k := by omega
          have hjz : ¬ (j : Int) < (j : Int) := by omega
          have HT : Hid (l.take j = l) := List.take_of_length_le (by rw [← HL.out]; omega)
          rw [HT.out] at s1 s2 s3 ⊢
          generalize sumZ l = s at *
          by_cases hs : 65536 < s
          · rw [if_pos hs] at HO
            go_wp2
            go_ret2
            exact ⟨by rw [HO.out]; rfl, hb⟩
          · rw [if_neg hs] at HO
            go_wp2
            go_ret2
            exact ⟨by rw [HO.out]; rfl, hb⟩
end Go.Proofs.YtelnefngkdfcoaaGreat
/-
  The document's append of bits, and its Lengths by lenF.
-/
namespace Go.Proofs.YtelnefngkdfcoaaGreat
open Go.RowKit Hf Lz

theorem wp_app_bits (w : World) {o : Oper} {ac : Act} {K : Act → World → Prop} {Q : Exit → Act → World → Prop} (s x : Operand)
    (ho : o.op = .call { callee := .builtin .append, args := #[s, x], argTypes := #[72, 72] }) (B : Nat) (v : Value) (l : List Bool) (hs : ac.eval s = v) (hown : w.ownsRow B 4 1 v l.length (l.map Value.bool))
    (ad : Addr) (m cap : Nat) (bs : List Bool) (hm : bs.length = m) (hx : ac.eval x = .slice (some ad) m cap) (hc : ∀ j, j < m → w.cell? ⟨ad.block, ad.off + j, none⟩ = some (.bool (bs.getD j false))) (had : ad.spot = none) (hbd : l.length + m ≤ 1000000) (hB : B ≤ w.heap.size)
    (h : ∀ v' w', w'.ownsRow B 4 1 v' (l ++ bs).length ((l ++ bs).map Value.bool) → w.grownBy w' v.ownBlock → K (ac.put o.dst v') w') : o.wp Tryz.prog ac w K Q := by
  obtain ⟨i0, hi, hz0, hz1, hz2⟩ := info_parts Tryz.info4
  obtain ⟨gb, go, sp⟩ := ad
  simp only at had hc
  subst had
  refine wp_append_own w s x 72 ho B 4 i0 (.bool false) 1 1 Tryz.underlying72 hi hz0 hz1 hz2 rfl (by decide) v l.length _ hs hown ⟨gb, go, none⟩ m cap (bs.map Value.bool) hx (by simp; omega) ?_ ?_ (by unfold maxLen; omega) (by omega) hB ?_
  · intro j u hj
    have hjl : j < bs.length := by
      have := (List.getElem?_eq_some_iff.1 hj).1
      simpa using this
    rw [Go.WideShapes.add_plain, hc j (by omega), ← hj]
    simp [List.getD, List.getElem?_eq_getElem hjl]
  · intro u hu
    rw [List.mem_map] at hu
    obtain ⟨b, _, rfl⟩ := hu
    rfl
  · intro v' w' h1 h2 _
    refine h v' w' ?_ h2
    rw [List.length_append, List.map_append, hm]
    exact h1

theorem wp_appB (w : World) {o : Oper} {ac : Act} {K : Act → World → Prop} {Q : Exit → Act → World → Prop} (s x : Operand)
    (ho : o.op = .call { callee := .builtin .append, args := #[s, x], argTypes := #[72, 72] }) (B : Nat) (v : Value) (l : List Bool) (hs : ac.eval s = v) (hown : w.ownsRow B 4 1 v l.length (l.map Value.bool))
    (B2 : Nat) (vx : Value) (bs : List Bool) (hx : ac.eval x = vx) (hox : w.ownsRow B2 4 1 vx bs.length (bs.map Value.bool)) (hbd : l.length + bs.length ≤ 1000000) (hB : B ≤ w.heap.size)
    (h : ∀ v' w', w'.ownsRow B 4 1 v' (l ++ bs).length ((l ++ bs).map Value.bool) → w.grownBy w' v.ownBlock → K (ac.put o.dst v') w') : o.wp Tryz.prog ac w K Q := by
  obtain ⟨i0, hi, hz0, hz1, hz2⟩ := info_parts Tryz.info4
  rcases id hox.2 with ⟨rfl, h0⟩ | ⟨g, cap, cur, rfl, _, _, _, _, _, _⟩
  · have hb : bs = [] := List.eq_nil_of_length_eq_zero h0
    subst hb
    have hrun := run_append_owned_none (P := Tryz.prog) (w := w) B 72 o.type 4 i0 1 Tryz.underlying72 hi v l.length _ hown
    unfold Oper.wp execOp
    simp only [ho, resolve, invoke, builtin, Sem.run_bind, Sem.run_pure, Result.andThen_ok, List.map_toArray, List.map_cons, List.map_nil, hs, hx, hrun]
    exact h v w (by rw [List.append_nil]; exact hown) (World.grownBy.refl _ _)
  · refine wp_app_bits w s x ho B v l hs hown ⟨g, 0, none⟩ bs.length cap bs rfl hx (fun j hj => ?_) rfl hbd hB h
    rw [Nat.zero_add, hox.cellAt j (by omega), List.getElem?_map]
    simp [List.getD, List.getElem?_eq_getElem hj]
theorem lenr_F (a : Option Addr) (cap : Nat) (cs : List Int) (n : Nat) (w : World) (hr : Ri w .i64 a cap cs) (hc : areC cs = true) (hl : cs.length = n) (h5 : n ≤ 512) :
    Calls Tryz.prog 30 #[.slice a n cap] w fun e w' => ∃ a2 c2, e = .returned (.tuple #[.slice a2 n c2, .int .i64 0]) ∧ Ri w' .i64 a2 c2 (lenF cs) ∧ Below w.heap.size w w' := by
  subst hl
  refine (lenr_yes a cap cs w hr hc h5).mono ?_
  rintro e w' ⟨k, a2, c2, rfl, h1, h2, h3, h4⟩
  refine ⟨a2, c2, rfl, ?_, h4⟩
  rw [← lenF_eq h5 (areC_rng hc).2 h1 h2]
  exact h3
theorem runr_F (a : Option Addr) (cap : Nat) (zs : List Int) (n : Nat) (w : World) (hr : Ri w .i64 a cap zs) (hl : zs.length = n) (hn : n ≤ 1000) (hz : ∀ j, 0 ≤ zs.getD j 0 ∧ zs.getD j 0 ≤ 15) :
    Calls Tryz.prog 31 #[.slice a n cap] w fun e w' => ∃ v, e = .returned v ∧ w'.ownsRow w.heap.size 5 1 v (runsL zs).length ((runsL zs).map (Value.int .u8)) ∧ Below w.heap.size w w' := by
  subst hl
  exact rruns_ref a cap zs w hr hn (fun j => ⟨(hz j).1, by have := (hz j).2; omega⟩)
theorem codr_F (a : Option Addr) (cap : Nat) (zs : List Int) (n : Nat) (w : World) (hr : Ri w .i64 a cap zs) (hc : checkB zs = true) (hl : zs.length = n) :
    Calls Tryz.prog 33 #[.slice a n cap] w fun e w' => ∃ a2 c2, e = .returned (.tuple #[.slice a2 n c2, .int .i64 0]) ∧ Ri w' .u16 a2 c2 (codesL zs) ∧ Below w.heap.size w w' := by
  subst hl
  refine (codes_ref a cap zs w hr hc).mono ?_
  rintro e w' ⟨v, rfl, ho, hb⟩
  obtain ⟨a2, c2, rfl, h2⟩ := Ri.own ho (fun j => wf_mk_u16 (codesL_rng zs j).1 (codesL_rng zs j).2)
  rw [codesL_length]
  exact ⟨a2, c2, rfl, h2, hb⟩
def tokDb (ls ds : List Int) (t : Tkz) : List Bool :=
  bitsL ((codesL ls).getD (symZ t).toNat 0).toNat (ls.getD (symZ t).toNat 0).toNat ++ (if 0 < t.1 then bitsL ((codesL ds).getD (dstZ t.1).toNat 0).toNat (ds.getD (dstZ t.1).toNat 0).toNat ++ bitsL t.1.toNat (dstZ t.1).toNat else [])
def bitD (ls ds : List Int) (l : List Tkz) : Nat → List Bool
  | 0 => []
  | k + 1 => bitD ls ds l k ++ tokDb ls ds (l.getD k tk0)
theorem tokDb_len (ls ds : List Int) (hl : ∀ j, ls.getD j 0 ≤ 15) (hd : ∀ j, ds.getD j 0 ≤ 15) (t : Tkz) (ht : t.1 ≤ 4096) : (tokDb ls ds t).length ≤ 42 := by
  unfold tokDb
  rw [List.length_append, bitsL_length]
  have h1 := hl (symZ t).toNat
  have h2 := hd (dstZ t.1).toNat
  split
  · rename_i hp
    rw [List.length_append, bitsL_length, bitsL_length]
    have h3 := dst_rng (d := t.1) (by omega) ht
    omega
  · rw [List.length_nil]; omega
theorem bitD_len (ls ds : List Int) (hl : ∀ j, ls.getD j 0 ≤ 15) (hd : ∀ j, ds.getD j 0 ≤ 15) (l : List Tkz) (ht : ∀ j, j < l.length → (l.getD j tk0).1 ≤ 4096) : ∀ k, k ≤ l.length → (bitD ls ds l k).length ≤ 42 * k
  | 0, _ => by simp [bitD]
  | k + 1, hk => by
    have h1 := bitD_len ls ds hl hd l ht k (by omega)
    have h2 := tokDb_len ls ds hl hd (l.getD k tk0) (ht k (by omega))
    rw [bitD, List.length_append]
    omega
def docB (l : List Tkz) : List Int := headP l ++ packN (nB (bitD (lsF l) (dsF l) l l.length) (bitD (lsF l) (dsF l) l l.length).length) (bitD (lsF l) (dsF l) l l.length).length
end Go.Proofs.YtelnefngkdfcoaaGreat
