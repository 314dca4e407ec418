/-
  The contract of List (20).
-/
import Derived.Test.YtcbjlnabbfkkeaaNmLb
import Derived.Maps.AppendAt
import Derived.Shelf.SlSortCmp.NoneTotal
namespace Go.Proofs.Ytcbjlnabbfkkeaa
open Go.ChangeShapes Go.WideShapes Go.ChangeAt Go.RowKit Go.Deep Go.Lib

/-- The rows of the pieces of told files: they lie at R or behind, and none of them in the block of v. -/
def Fre (R : Nat) (w : World) (v : Value) (l : List Fi) : Prop := ∀ i ∈ l, Rp w i.a i.cap i.ps ∧ (0 < i.ps.length → ∀ b off, i.a = some ⟨b, off, none⟩ → v.ownBlock ≠ some b ∧ R ≤ b)
theorem Fre.later {R : Nat} {w w' : World} {v : Value} {l : List Fi} (h : Fre R w v l) (hb : Below w.heap.size w w') : Fre R w' v l := fun i hi => ⟨(h i hi).1.later hb, (h i hi).2⟩
theorem rp_grown {w w' : World} {a : Option Addr} {cap : Nat} {l : List Pc} {row : Option Nat} (h : Rp w a cap l) (hg : w.grownBy w' row) (hne : 0 < l.length → ∀ b off, a = some ⟨b, off, none⟩ → row ≠ some b) : Rp w' a cap l := by
  refine ⟨h.room, h.most, h.none0, fun h0 => ?_, h.fits⟩
  obtain ⟨b, off, ha, hbw, hc⟩ := h.cells h0
  have hb := hg.block b hbw (fun e => hne h0 b off ha e.symm)
  exact ⟨b, off, ha, Nat.lt_of_lt_of_le hbw hg.size, fun j hj i v hv => (World.cell?_of_block (w := w) (a := ⟨b, off + j * 33 + i, none⟩) hb).trans (hc j hj i v hv)⟩
theorem Fre.grown {R : Nat} {w w' : World} {v v' : Value} {l : List Fi} (h : Fre R w v l) (hg : w.grownBy w' v.ownBlock) (hv : v'.ownBlock = v.ownBlock ∨ v'.ownBlock = some w.heap.size) : Fre R w' v' l := fun i hi => by
  obtain ⟨h1, h2⟩ := h i hi
  refine ⟨rp_grown h1 hg (fun h0 b off e => (h2 h0 b off e).1), fun h0 b off e => ⟨?_, (h2 h0 b off e).2⟩⟩
  rcases hv with hv | hv
  · rw [hv]; exact (h2 h0 b off e).1
  · obtain ⟨b2, off2, e2, hb, _⟩ := h1.cells h0
    rw [e] at e2
    injection e2 with e2
    injection e2 with e2
    rw [hv]
    intro e3
    injection e3 with e3
    omega
theorem Fre.cut {R r : Nat} {w w' : World} {v : Value} {l : List Fi} (h : Fre R w v l) (hg : w.grownBy w' (some r)) (hr : r < R) : Fre R w' v l := fun i hi => by
  obtain ⟨h1, h2⟩ := h i hi
  refine ⟨rp_grown h1 hg (fun h0 b off e e2 => ?_), h2⟩
  have := (h2 h0 b off e).2
  injection e2 with e2
  omega
theorem Fre.add {R : Nat} {w : World} {v : Value} {l : List Fi} {i : Fi} (h : Fre R w v l) (hr : Rp w i.a i.cap i.ps) (hf : ∀ b off, i.a = some ⟨b, off, none⟩ → v.ownBlock ≠ some b ∧ R ≤ b) : Fre R w v (l ++ [i]) := fun j hj => by
  rcases List.mem_append.1 hj with hj | hj
  · exact h j hj
  · rw [List.mem_singleton.1 hj]; exact ⟨hr, fun _ => hf⟩
theorem own_cut {R r e size n : Nat} {w w' : World} {v : Value} {xs : List Value} (h : w.ownsRow R e size v n xs) (hg : w.grownBy w' (some r)) (hr : r < R) : w'.ownsRow R e size v n xs := by
  refine ⟨h.1, ?_⟩
  rcases h.2 with h1 | ⟨g, cap, cur, hv, hR, hh, hrest⟩
  · exact Or.inl h1
  · exact Or.inr ⟨g, cap, cur, hv, hR, (hg.block g (Array.getElem?_eq_some_iff.1 hh).1 (fun e => by injection e with e; omega)).trans hh, hrest⟩
set_option maxHeartbeats 6400000 in
set_option maxRecDepth 100000 in
theorem list_word (W : World) (n g : Nat) (M : List Fl) (B : Nat) (h : Nm B W n g M) (p : ByteArray) : Calls Try.prog 20 #[.pointer (some ⟨n, 0, none⟩), .string p] W fun e w' => ∃ (a : Option Addr) (cap : Nat) (L : List Fi), e = .returned (.slice a L.length cap) ∧ Fs w' a cap L ∧ LstP M p L ∧ Below W.heap.size W w' := by
  have HMD := hid (made_yes W n g M B h)
  have HH := hid h
  have HZ : Hid (∀ w, (zeroValue 77).run Try.prog w = .ok (.agg flZ.cs.toArray) w) := Try.zero77
  obtain ⟨i1, hi1, hy0, hy1, hy2⟩ := info_parts Try.info51
  obtain ⟨D, hD⟩ := id h
  have HD := hid hD
  have HGL := hid h.lt
  have cn := h.cell
  have HOW := hid HD.out.own
  have HPX := hid (fun s w => Try.strings_HasPrefix s p w)
  clear h hD
  go_enter Try.func20, Try.ntmps20
  go_wp2_with fail
  refine HMD.out.mono ?_
  rintro _ w0 ⟨rfl, hw⟩
  obtain rfl := hw.symm
  clear hw HMD
  go_wp2_with (first | refine wpList_range_own W rfl _ 67 rfl 9 77 Try.keyed9 Try.underlying67 rdV g 1048576 D rfl HOW.out ?_ | fail)
  intro W2 hrg hg2 hs2
  have HRG := hid hrg
  obtain ⟨r, hr⟩ : ∃ r, r = W.heap.size := ⟨_, rfl⟩
  rw [← hr] at HRG hs2 ⊢
  have hb2 : Below W.heap.size W W2 := ⟨hg2.os, hg2.tape, hg2.output, hg2.size, fun i hi => hg2.block i hi (by simp)⟩
  have HB2 := hid hb2
  have HR : Hid (r = W.heap.size) := hr
  have HS2 : Hid (r + 1 ≤ W2.heap.size) := by show _ ≤ _; omega
  clear hrg hg2 hs2 hb2 hr cn HOW
  go_wp2
  go_loopw [5] (fun x5 wr => ∃ (acc : List Fi) (left : Lit → Bool) (cnt : Nat), Hid (wr.ranges Try.prog 9 rdV g r 1048576 D left cnt) ∧ Hid (wr.ownsRow (r + 1) 51 4 x5 acc.length (acc.flatMap Fi.cs)) ∧ Hid (Fre (r + 1) wr x5 acc) ∧ Hid (Acc M p acc left cnt) ∧ Hid (∀ kl, left kl = true → Maps.has D kl = true) ∧ Hid (Below W.heap.size W wr) ∧ Hid (r + 1 ≤ wr.heap.size)) (fun _ wr => wr.rangeLeft g r)
  case atStart =>
    refine ⟨[], _, _, HRG.out, World.ownsRow_nil _ _ _ _, (fun i hi => by cases hi), ⟨(fun i hi => by cases hi), fun s f hf hl => ?_, List.Pairwise.nil, ?_⟩, fun _ h => h, HB2.out, HS2.out⟩
    · rw [HD.out.has, hf] at hl; cases hl
    · rw [HD.out.size]; simp
  case round =>
    obtain ⟨acc, left, cnt, HRA, HOA, HFA, HHA, HLA, HBA, HSA⟩ := hrel
    clear HRG HB2 HS2
    go_wp2_with (first | refine wpList_next_ranges wr rfl _ rfl 9 Try.keyed9 rdV Value.string id (fun key kl hk => (by obtain ⟨s, h1, _, _⟩ := WideMaps.string_of_keyOf Try.underlying9 hk; exact ⟨s, h1⟩)) (fun v _ _ => ⟨v, rfl⟩) g r 1048576 D left cnt rfl HRA.out ?_ ?_ | fail)
    · intro hc0 hl0
      have HL0 := hid hl0
      clear hl0
      have hal : acc.length ≤ 1024 := by have h1 := HHA.out.cnt_; have h2 := HD.out.many; omega
      have HAL := hid hal
      rcases HOA.out.2 with ⟨hv, hn⟩ | ⟨g5, cap5, cur, hv, hg5, _⟩
      · subst hv
        have hae : acc = [] := List.eq_nil_of_length_eq_zero hn
        subst hae
        clear hn hal
        go_wp2_with fail
        refine (AnyF.slices_SortFunc_none Try.sortFiles none 0 _ wr).mono ?_
        rintro _ w0 ⟨rfl, hw⟩
        obtain rfl := hw.symm
        clear hw
        go_wp2
        go_ret
        exact ⟨none, 0, [], rfl, ⟨Rw.nil _, fun i hi => by cases hi⟩, LstP.mk' HHA.out HL0.out (List.Perm.refl _) List.Pairwise.nil, HBA.out⟩
      · subst hv
        have HG5 := hid hg5
        clear hg5 hal
        go_wp2_with fail
        refine (sorted_word wr g5 cap5 acc (r + 1) HOA.out (Nat.le_trans HAL.out (by decide))).mono ?_
        rintro _ w9 ⟨rfl, L', hp, hs, hrw, hg9⟩
        have HP := hid hp
        have HS := hid hs
        have HRW := hid hrw
        have HG9 := hid hg9
        have HPL := hid hp.length_eq
        clear hp hs hrw hg9
        go_wp2
        go_ret
        refine ⟨some ⟨g5, 0, none⟩, cap5, L', (by rw [HPL.out]; rfl), ⟨HRW.out, fun i hi => ?_⟩, LstP.mk' HHA.out HL0.out HP.out HS.out, HBA.out.trans (bel_grown HG9.out (by have := HG5.out; have := HR.out; omega) HBA.out.size)⟩
        obtain ⟨h1, h2⟩ := HFA.out i (HP.out.mem_iff.1 hi)
        exact rp_grown h1 HG9.out (fun h0 b off e => (h2 h0 b off e).1)
    · intro x c kl y ll w' cnt' hk hl hv hat hra hcnt hgr hsz hen
      obtain ⟨s, e1, e2, _⟩ := WideMaps.string_of_keyOf Try.underlying9 hk
      obtain rfl : x = s := by injection e1
      subst e2
      obtain ⟨f, hf⟩ : ∃ f, fnd M x = some f := by
        have h1 := HLA.out _ hl
        have h2 := HD.out.has x
        unfold kS at h2
        rw [h1] at h2
        exact Option.isSome_iff_exists.1 h2.symm
      obtain rfl : c = f.val := by
        have h1 := HD.out.at_ x f hf (.held c)
        unfold kS at h1
        rw [hat] at h1
        have h2 : y = .held c := by unfold rdV at hv; injection hv with hv; injection hv with hv; exact hv.symm
        rw [h2] at h1
        injection h1
      obtain rfl : f.path = x := fnd_path hf
      have HFN := hid hf
      have HKL := hid hl
      have HRA' := hid hra
      have HCN := hid hcnt
      have hr2 := HR.out
      have HBA' : Hid (Below W.heap.size W w') := HBA.out.trans (bel_grown hgr (by omega) HBA.out.size)
      have HSA' : Hid (r + 1 ≤ w'.heap.size) := by have := HSA.out; show _ ≤ _; omega
      have HOA' := hid (own_cut HOA.out hgr (Nat.lt_succ_self r))
      have HFA' := hid (HFA.out.cut hgr (Nat.lt_succ_self r))
      have HFO := hid ((HD.out.ok f (fnd_mem hf)).later HBA'.out)
      have HLFT : Hid (wr.rangeLeft g r = cnt) := HRA.out.left_eq
      have HGR : Hid (g < r) := by rw [HR.out]; exact HGL.out.2
      clear hk hl hv hat hra hcnt hgr hsz hf hr2 e1 HBA HRA HSA HOA HFA
      unfold Fl.val at hen ⊢
      go_wp2_with (first | refine wpList_alloc_W rfl 77 rfl (some 7) rfl _ HZ.out w'.heap.size rfl ?_ | fail)
      intro V1 HG1 HB1' HSz1
      go_wp2_with (first | refine wpList_store_W rfl 77 _ _ rfl rfl w'.heap.size f.cs.toArray rfl rfl 77 _ HG1.out Try.size77 rfl (Fl.one _) ?_ | fail)
      intro V2 HG2 HGR2 HSz2
      have HY2 : Hid (Below w'.heap.size w' V2) := HB1'.out.trans (bel_grown HGR2.out (Nat.le_refl _) HB1'.out.size)
      have HRG2 : Hid (V2.ranges Try.prog 9 rdV g r 1048576 D (fun z => left z && !z.sameKey (kS f.path)) cnt') := HRA'.out.kept (grown_bel (r := none) HY2.out) (by simp) (by simp)
      have HBA2 : Hid (Below W.heap.size W V2) := HBA'.out.trans (HY2.out.mono HBA'.out.size)
      have HSA2 : Hid (r + 1 ≤ V2.heap.size) := Nat.le_trans HSA'.out HY2.out.size
      have HO2 := hid (own_later HOA'.out HY2.out)
      have HF2 := hid (HFA'.out.later HY2.out)
      have HFO2 := hid (HFO.out.later HY2.out)
      clear HG1 HB1' HSz1 HGR2 hen HRA' HBA' HSA' HOA' HFA' HFO HSz2
      go_wp2_with fail
      refine (HPX.out f.path V2).mono ?_
      rintro _ w0 ⟨rfl, hw⟩
      obtain rfl := hw.symm
      clear hw
      rw [show hasPrefix f.path.data.toList p.data.toList = preB f.path p from rfl]
      have HLL : Hid (∀ kl, (left kl && !kl.sameKey (kS f.path)) = true → Maps.has D kl = true) := fun kl h => HLA.out kl (by rw [Bool.and_eq_true] at h; exact h.1)
      cases hpb : preB f.path p with
      | false =>
        have HME : Hid (V2.rangeLeft g r < wr.rangeLeft g r) := by show _ < _; rw [HLFT.out, HRG2.out.left_eq]; exact HCN.out
        go_wp2
        go_round
        case rel => exact ⟨acc, _, cnt', HRG2.out, HO2.out, HF2.out, HHA.out.skip hpb HCN.out, HLL.out, HBA2.out, HSA2.out⟩
        case measure => exact HME.out
      | true =>
        have HPB := hid hpb
        clear hpb
        go_wp2_with (first | refine wpList_load_P rfl 77 _ rfl w'.heap.size 0 rfl f.cs _ (blk_range HG2.out) Try.underlying77 rfl Try.size77 ?_ | fail)
        refine (told_word V2 f HFO2.out).mono ?_
        rintro _ V3 ⟨i, rfl, hfig, hb3⟩
        have HFIG := hid hfig
        have HB3 := hid hb3
        have HBX3 := hid (Bn hb3 (bel_alc V3 (.cells i.cs.toArray 51)))
        have HO3 := hid (own_later HO2.out HBX3.out)
        have HSZ3 : Hid (r + 1 ≤ (V3.alloc (.cells i.cs.toArray 51)).heap.size) := Nat.le_trans HSA2.out HBX3.out.size
        have HNW : Hid (∀ j u, i.cs[j]? = some u → (V3.alloc (.cells i.cs.toArray 51)).cell? ((⟨V3.heap.size, 0, none⟩ : Addr).add j) = some u) := fun j u hu => by
          rw [add_plain, Nat.zero_add]
          exact (Joins.cell_of_block (heap_alc V3 _) j).trans (by rw [List.getElem?_toArray]; exact hu)
        have hal : acc.length ≤ 1024 := by have h1 := HHA.out.cnt_; have h2 := HD.out.many; omega
        have HAL := hid hal
        clear hfig hb3 hal
        go_wp2_with (first | refine wpList_buildOne rfl 27 51 _ rfl (some 27) rfl i.cs.toArray i1 _ Try.underlying27 hi1 hy0 (hy1.trans rfl) (show 0 < 4 from by decide) (show 4 ≤ 1000 from by decide) rfl ?_ | (at_builtin; refine wpList_append_own_at _ rfl _ _ 27 rfl (r + 1) 51 i1 _ 4 56 Try.underlying27 hi1 hy0 hy1 hy2 rfl (by decide) _ acc.length _ rfl HO3.out ⟨V3.heap.size, 0, none⟩ 1 1 i.cs rfl rfl HNW.out (fun u hu => List.all_eq_true.1 (by simpa using Fi.one i) u hu) (by have := HAL.out; unfold maxLen; omega) (by have := HAL.out; omega) HSZ3.out ?_) | fail)
        intro v2 W4 ho4 hg4 _ hat4
        have HO4 : Hid (W4.ownsRow (r + 1) 51 4 v2 (acc ++ [i]).length ((acc ++ [i]).flatMap Fi.cs)) := by
          show World.ownsRow _ _ _ _ _ _ _
          rw [List.length_append, List.flatMap_append]
          simpa using ho4
        have HF3 := HF2.out.later HBX3.out
        have HF3' := HF3.add (i := i) (HFIG.out.row.later (bel_alc V3 _)) (fun b off e => ⟨fun e2 => by
          have h1 := (HO2.out.lt b e2).2
          have h2 := HFIG.out.far b off e
          omega, Nat.le_trans HSA2.out (HFIG.out.far b off e)⟩)
        have HF4 := hid (HF3'.grown (v' := v2) hg4 (by simpa using hat4))
        have HRG4 := hid ((HRG2.out.kept (grown_bel (r := none) HBX3.out) (by simp) (by simp)).kept hg4 (fun e => by have h1 := (HO3.out.lt g e.symm).1; have h2 := HGR.out; omega) (fun e => by have h1 := (HO3.out.lt r e.symm).1; omega))
        have HBA4 : Hid (Below W.heap.size W W4) := (HBA2.out.trans (HBX3.out.mono HBA2.out.size)).trans ((Below.refl _ _).grown hg4 (Nat.le_trans HBA2.out.size HBX3.out.size) (fun j hj => by have h1 := (HO3.out.lt j hj).1; have h2 := HR.out; omega))
        have HSA4 : Hid (r + 1 ≤ W4.heap.size) := Nat.le_trans HSZ3.out hg4.size
        have HME : Hid (W4.rangeLeft g r < wr.rangeLeft g r) := by show _ < _; rw [HLFT.out, HRG4.out.left_eq]; exact HCN.out
        have HAC := hid (HHA.out.step HFN.out HKL.out ⟨HFIG.out.path, HFIG.out.size, HFIG.out.seq, HFIG.out.ps⟩ HPB.out HCN.out)
        clear ho4 hg4 hat4 HF3 HF3' HO3 HNW
        go_wp2
        go_round
        case rel => exact ⟨acc ++ [i], _, cnt', HRG4.out, HO4.out, HF4.out, HAC.out, HLL.out, HBA4.out, HSA4.out⟩
        case measure => exact HME.out
end Go.Proofs.Ytcbjlnabbfkkeaa
