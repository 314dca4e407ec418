/-
  Rows of records; record's Next whole; the law's few.
-/
import Derived.Test.YtpbaacplgohniaaDoorRcN
import Derived.Test.YtpbaacplgohniaaDoorRcM
import Derived.Test.YtpbaacplgohniaaDoorRcL
import Derived.Great.FillDense
namespace Go.Proofs.YtpbaacplgohniaaDoor
open Go.ChangeShapes Go.WideShapes Go.ChangeAt Go.RowKit Go.Deep

theorem kinds_of {r : Rec} (h : kindB r = true) : r.kind = 1 ∨ r.kind = 2 ∨ r.kind = 3 := by
  unfold kindB at h
  split at h
  · exact .inl ‹_›
  · split at h
    · exact .inr (.inr ‹_›)
    · split at h
      · exact .inr (.inl ‹_›)
      · cases h
theorem may_parts {r : Rec} (h : mayB r = true) : (1 ≤ r.seq ∧ r.seq ≤ 1073741824) ∧ (1 ≤ r.epoch ∧ r.epoch ≤ 1073741824) ∧ kindB r = true := by
  unfold mayB at h
  simp only [Bool.and_eq_true, decide_eq_true_eq] at h
  exact ⟨h.1.1, h.1.2, h.2⟩
theorem kind_lead' {r : Rec} (h : kindB r = true) (hk : r.kind = 1) : (r.site = 0 ∨ r.site = 1) ∧ r.path.size = 0 ∧ r.ps = [] := by
  unfold kindB at h
  rw [if_pos hk] at h
  simp only [Bool.and_eq_true, decide_eq_true_eq] at h
  exact ⟨h.1.1, h.1.2, List.length_eq_zero_iff.1 h.2⟩
theorem kind_file' {r : Rec} (h : kindB r = true) (hk : r.kind ≠ 1) : r.site = 0 ∧ pathB r.path = true ∧ (sizO r.ps).2 = 0 ∧ (r.kind = 3 → r.ps = []) := by
  rcases kinds_of h with q | q | q
  · exact absurd q hk
  · unfold kindB at h; rw [q] at h; simp at h; exact ⟨h.1.1, h.1.2, h.2, fun e => by omega⟩
  · unfold kindB at h; rw [q] at h; simp at h; exact ⟨h.2.1.1, h.2.1.2, h.2.2, fun _ => h.1⟩
theorem path_parts {s : ByteArray} (h : pathB s = true) : 1 ≤ s.size ∧ s.size ≤ 255 := by
  unfold pathB at h
  simp only [Bool.and_eq_true, decide_eq_true_eq] at h
  exact h.1
theorem siz_parts {l : List Pc} (h : (sizO l).2 = 0) : l.length ≤ 4096 ∧ l.all nOk = true := by
  unfold sizO at h
  split at h
  · cases h
  · split at h
    · exact ⟨by omega, ‹_›⟩
    · cases h
theorem path_mem (s : ByteArray) : ∀ z ∈ pathL s, (Lit.int .u8 z).wf = true := fun z hz => by
  obtain ⟨c, _, rfl⟩ := List.mem_map.1 hz
  have := c.toNat_lt
  exact wf_mk_u8 (by omega) (by omega)
theorem wrH_mem {w : World} {r : Rec} (h : Rv w r) (hm : mayB r = true) : ∀ z ∈ wrH r, (Lit.int .u8 z).wf = true := by
  obtain ⟨h1, h2, h3⟩ := may_parts hm
  have hk := kinds_of h3
  refine app_u8 (app_u8 (app_u8 (fun z hz => ?_) (vint_mem _ (by omega) (by omega))) (vint_mem _ (by omega) (by omega))) (mem_u8 h.u8)
  simp at hz
  rcases hz with rfl | rfl
  · rfl
  · exact wf_mk_u8 (by omega) (by omega)
theorem wr_mem {w : World} {r : Rec} (h : Rv w r) (hm : mayB r = true) : ∀ z ∈ wrB r, (Lit.int .u8 z).wf = true := by
  have hH := wrH_mem h hm
  obtain ⟨h1, h2, h3⟩ := may_parts hm
  unfold wrB
  by_cases hk : r.kind = 1
  · rw [if_pos hk]
    have := (kind_lead' h3 hk).1
    exact app_u8 hH (fun z hz => by simp at hz; subst hz; exact wf_mk_u8 (by omega) (by omega))
  · rw [if_neg hk]
    obtain ⟨_, f2, f3, _⟩ := kind_file' h3 hk
    have hp := path_parts f2
    have hs := siz_parts f3
    have hA : ∀ z ∈ (wrH r ++ [(r.path.size : Int)]) ++ pathL r.path, (Lit.int .u8 z).wf = true := app_u8 (app_u8 hH (fun z hz => by simp at hz; subst hz; exact wf_mk_u8 (by omega) (by omega))) (path_mem _)
    split
    · exact app_u8 hA (pcs_mem r.ps (by omega) (fun x hx => ⟨h.row.fits x hx, List.all_eq_true.1 hs.2 x hx⟩))
    · exact hA
theorem wr_len {w : World} {r : Rec} (h : Rv w r) (hm : mayB r = true) (hn : r.ps.length ≤ 1000) : (wrB r).length ≤ 100000 := by
  obtain ⟨_, _, h3⟩ := may_parts hm
  have hH : (wrH r).length ≤ 54 := by
    have h1 := vint10 r.seq
    have h2 := vint10 r.epoch
    unfold wrH
    simp [h.len]
    omega
  unfold wrB
  by_cases hk : r.kind = 1
  · rw [if_pos hk]; simp; omega
  · rw [if_neg hk]
    obtain ⟨_, f2, _, _⟩ := kind_file' h3 hk
    have hp := path_parts f2
    have h1 := vint10 (r.ps.length : Int)
    have h2 := flat_len r.ps (fun x hx => (h.row.fits x hx).len)
    split
    · simp only [List.length_append, List.length_cons, List.length_nil, pathL_len, pcsB]; omega
    · simp only [List.length_append, List.length_cons, List.length_nil, pathL_len]; omega
theorem flt_may {hs he : Int} {hc : List Int} {r : Rec} (h : fltO hs he hc r = 0) : mayB r = true ∧ folB hs he hc r = true := by
  unfold fltO at h
  split at h
  · split at h
    · exact ⟨‹_›, ‹_›⟩
    · cases h
  · cases h
/-- What Next answers. -/
def nxO (hs he : Int) (hc : List Int) (r : Rec) : Int × Int × List Int := if fltO hs he hc r = 0 then (r.seq, r.epoch, digL (wrB r)) else (0, 0, z32)
theorem next_word (hs he : Int) (hc : List Int) (r : Rec) (w : World) (hcl : hc.length = 32) (h : Rv w r) (hL : Sh.Laid w) (hn : r.ps.length ≤ 1000) :
    Calls Tryd.prog 28 #[.agg (hdL hs he hc).toArray, .agg r.cs.toArray] w fun e w' => e = .returned (.tuple #[.agg (hdL (nxO hs he hc r).1 (nxO hs he hc r).2.1 (nxO hs he hc r).2.2).toArray, .int .i64 (fltO hs he hc r)]) ∧ Below w.heap.size w w' := by
  unfold nxO
  by_cases hf : fltO hs he hc r = 0
  · rw [if_pos hf, hf]
    have hm := (flt_may hf).1
    exact next_ok hs he hc r w hcl h hL hf hm (wr_len h hm hn) (get_u8 (wr_mem h hm))
  · rw [if_neg hf]
    exact next_no hs he hc r w hcl h hf
theorem nxO_len (hs he : Int) (hc : List Int) (r : Rec) : (nxO hs he hc r).2.2.length = 32 := by
  unfold nxO
  split
  · exact digL_len _
  · rfl

/-- The slice at a reads, in the world w, as the records l. -/
structure Rr (w : World) (a : Option Addr) (cap : Nat) (l : List Rec) : Prop where
  room : l.length ≤ cap
  most : cap ≤ maxLen
  none0 : a = none → cap = 0
  cells : 0 < l.length → ∃ b off, a = some ⟨b, off, none⟩ ∧ b < w.heap.size ∧ ∀ j, j < l.length → w.rangeAt b (off + j * 38) (l.getD j recZ).cs
  fits : ∀ r ∈ l, Rv w r
theorem Rr.later {w w' : World} {a : Option Addr} {cap : Nat} {l : List Rec} (h : Rr w a cap l) (hb : Below w.heap.size w w') : Rr w' a cap l := by
  refine ⟨h.room, h.most, h.none0, fun h0 => ?_, fun r hr => (h.fits r hr).later hb⟩
  obtain ⟨b, off, ha, hbw, hc⟩ := h.cells h0
  exact ⟨b, off, ha, Nat.lt_of_lt_of_le hbw hb.size, fun j hj => range_later (hc j hj) hb hbw⟩
theorem Rr.get {w : World} {a : Option Addr} {cap : Nat} {l : List Rec} (h : Rr w a cap l) {j : Nat} (hj : j < l.length) : Rv w (l.getD j recZ) :=
  h.fits _ (by simp [List.getD, List.getElem?_eq_getElem hj])
theorem flatR_len (l : List Rec) (h : ∀ r ∈ l, r.prev.length = 32) : (l.flatMap Rec.cs).length = l.length * 38 := by
  induction l with
  | nil => rfl
  | cons x l ih => rw [List.flatMap_cons, List.length_append, Rec.cs_len (h x (by simp)), ih (fun y hy => h y (by simp [hy])), List.length_cons]; omega
theorem flatR_at (l : List Rec) (h : ∀ r ∈ l, r.prev.length = 32) : ∀ j, j < l.length → ∀ i u, (l.getD j recZ).cs[i]? = some u → (l.flatMap Rec.cs)[j * 38 + i]? = some u := by
  induction l with
  | nil => intro j hj; simp at hj
  | cons x l ih =>
    intro j hj i u hu
    have hx := Rec.cs_len (h x (by simp))
    rw [List.flatMap_cons]
    cases j with
    | zero =>
      have hu' : x.cs[i]? = some u := hu
      have hi : i < x.cs.length := (List.getElem?_eq_some_iff.1 hu').1
      rw [show 0 * 38 + i = i from by omega, List.getElem?_append_left hi]
      exact hu'
    | succ j =>
      rw [List.getElem?_append_right (by rw [hx]; omega), hx, show (j + 1) * 38 + i - 38 = j * 38 + i from by omega]
      exact ih (fun y hy => h y (by simp [hy])) j (by simp at hj; omega) i u (by simpa using hu)
theorem Rr.own {w : World} {base : Nat} {v : Value} {l : List Rec} (h : w.ownsRow base 27 38 v l.length (l.flatMap Rec.cs)) (hf : ∀ r ∈ l, Rv w r) : ∃ a cap, v = .slice a l.length cap ∧ Rr w a cap l := by
  rcases h.2 with ⟨rfl, hn⟩ | ⟨g, cap, cur, rfl, hbg, hg, hc, hm, hs, ht⟩
  · rw [hn]
    exact ⟨none, 0, rfl, ⟨by omega, by unfold maxLen; omega, fun _ => rfl, fun h0 => by omega, hf⟩⟩
  · refine ⟨some ⟨g, 0, none⟩, cap, rfl, ⟨hc, hm, (fun h => by cases h), fun _ => ⟨g, 0, rfl, (Array.getElem?_eq_some_iff.1 hg).1, fun j hj i u hu => ?_⟩, hf⟩⟩
    have := flatR_at l (fun r hr => (hf r hr).len) j hj i u hu
    rw [← ht] at this
    rw [Nat.zero_add]
    refine (Joins.cell_of_block hg _).trans ?_
    have hlt : j * 38 + i < (cur.toList.take (l.length * 38)).length := (List.getElem?_eq_some_iff.1 this).1
    rw [List.getElem?_take_of_lt (by simp at hlt; omega)] at this
    simpa using this
theorem Tryd.info27 : (Tryd.prog.info? 27).map (fun i => (i.zero, i.size, i.bytes)) = some (some (.agg recZ.cs.toArray), 38, 104) := by kernel_rfl
theorem wpList_buildOne {P : Program} {ops : Array Oper} {rest : List Oper} {o : Oper} {a : Act} {w : World} {Q : Exit → Act → World → Prop} (hg : o.guard = none) (t e : TypeId) (x : Operand) (ho : o.op = .buildSlice t 1 #[(0, x)]) (d : Option Tmp) (hd : o.dst = d)
    (cells : Array Value) (ie : TypeInfo) (z : Value) (hu : P.underlying t = some (.slice e)) (hie : P.info? e = some ie) (hz : ie.zero = some z) (hs : ie.size = cells.size) (hp : 0 < cells.size) (hq : cells.size ≤ 1000) (hx : a.eval x = .agg cells)
    (h : wpList P ops Q rest (a.put d (.slice (some ⟨w.heap.size, 0, none⟩) 1 1)) (w.alloc (.cells cells e))) : wpList P ops Q (o :: rest) a w := by
  subst hd
  refine wpList_buildSlice hg t e 1 _ ho cells ie z hu hie hz (by rw [hs]; omega) (by rw [hs]; omega) ?_ h
  have := Great.fill_whole (s := cells.size) hp [.agg cells] ((Array.range (1 * cells.size)).map (z.cells[· % z.cells.size]!)) (fun v hv => by simp at hv; subst hv; rfl) (by simp)
  rw [hs]
  simpa [hx, Value.cells] using this
def fewL (l : List Rec) : List Rec := (l.take 20).map cutR
theorem fewL_len (l : List Rec) : (fewL l).length ≤ 20 := by unfold fewL; simp; omega
set_option maxHeartbeats 3200000 in
set_option maxRecDepth 100000 in
theorem few_word (a : Option Addr) (cap : Nat) (l : List Rec) (w : World) (hr : Rr w a cap l) :
    Calls Tryd.prog 25 #[.slice a l.length cap] w fun e w' => ∃ a' cap', e = .returned (.slice a' (fewL l).length cap') ∧ Rr w' a' cap' (fewL l) ∧ Below w.heap.size w w' := by
  have hroom := hr.room
  have hmost := hr.most
  unfold maxLen at hmost
  have HR := hid hr
  obtain ⟨i0, hi, hz0, hz1, hz2⟩ := info_parts Tryd.info27
  obtain ⟨len, hle⟩ : ∃ n, n = l.length := ⟨_, rfl⟩
  have HL := hid hle
  rw [← hle] at hroom ⊢
  clear hr hle
  go_enter Tryd.func25, Tryd.ntmps25
  go_wp2
  go_loopw [3, 4] (fun x3 x4 wr => ∃ k : Nat, k ≤ len ∧ k ≤ 20 ∧ x4 = .int .i64 (k : Int) ∧ Hid (wr.ownsRow w.heap.size 27 38 x3 ((l.take k).map cutR).length (((l.take k).map cutR).flatMap Rec.cs)) ∧ Hid (Below w.heap.size w wr)) (fun _ x4 _ => 20 - (intOf x4).toNat)
  case atStart => exact ⟨0, by omega, by omega, rfl, World.ownsRow_nil _ _ _ _, Below.refl _ _⟩
  case round =>
    obtain ⟨k, hk, hk20, rfl, HO, HB⟩ := hrel
    by_cases hlt : k < len
    · by_cases h20 : k < 20
      · have hkz : (k : Int) < (len : Int) := by omega
        have hk2 : (k : Int) < 20 := by omega
        obtain ⟨b, off, rfl, hbw, hc⟩ := HR.out.cells (by rw [← HL.out]; omega)
        have hrg := (hc k (by rw [← HL.out]; exact hlt))
        have HRG : Hid (wr.rangeAt b (off + k * 38) (l.getD k recZ).cs) := fun j v hv => (HB.out.cell (p := ⟨b, off + k * 38 + j, none⟩) hbw).trans (hrg j v hv)
        have hok := (HR.out.get (j := k) (by rw [← HL.out]; exact hlt)).later HB.out
        have HTK : Hid ((l.take (k + 1)).map cutR = (l.take k).map cutR ++ [cutR (l.getD k recZ)]) := by
          show _ = _
          have hkl : k < l.length := by rw [← HL.out]; exact hlt
          have e : l.take (k + 1) = l.take k ++ [l.getD k recZ] := by
            rw [List.take_add_one]
            simp [List.getD, List.getElem?_eq_getElem hkl]
          rw [e, List.map_append]
          rfl
        have HTL : Hid (((l.take k).map cutR).length = k) := by show _ = _; simp; rw [← HL.out]; omega
        generalize l.getD k recZ = x at *
        have HLX := hid (Rec.cs_len hok.len)
        have HCW := hid (cut_word x wr hok)
        have HCL : Hid ((cutR x).prev.length = 32) := hok.len
        have HS0 : Hid (w.heap.size ≤ wr.heap.size) := HB.out.size
        clear hrg hc hok
        go_wp2_with (first | refine wpList_load_g rfl 27 _ rfl b (off + k * 38) rfl x.cs _ HRG.out Tryd.underlying27 rfl (by rw [HLX.out]; exact Tryd.size27) ?_ | fail)
        refine HCW.out.mono ?_
        rintro _ W1 ⟨rfl, hb1⟩
        have HB1 := hid (Bn HB.out hb1)
        have HO1 := hid ((own_later HO.out hb1).alloc (.cells (cutR x).cs.toArray 27))
        have HBA := hid (Bn HB1.out (bel_alc W1 (.cells (cutR x).cs.toArray 27)))
        have HNW : Hid (∀ j u, (cutR x).cs[j]? = some u → (W1.alloc (.cells (cutR x).cs.toArray 27)).cell? ((⟨W1.heap.size, 0, none⟩ : Addr).add j) = some u) := fun j u hu => by
          rw [add_plain, Nat.zero_add]
          exact (Joins.cell_of_block (heap_alc W1 _) j).trans (by rw [List.getElem?_toArray]; exact hu)
        have HS1 : Hid (w.heap.size ≤ (W1.alloc (.cells (cutR x).cs.toArray 27)).heap.size) := HBA.out.size
        clear hb1 HCW HO
        go_wp2_with (first | refine wpList_buildOne rfl 56 27 _ rfl (some 21) rfl (cutR x).cs.toArray i0 _ Tryd.underlying56 hi hz0 (by rw [hz1, Rec.cs_size HCL.out]) (by rw [Rec.cs_size HCL.out]; decide) (by rw [Rec.cs_size HCL.out]; decide) rfl ?_ | (at_builtin; refine wpList_append_own _ rfl _ _ 56 rfl w.heap.size 27 i0 _ 38 104 Tryd.underlying56 hi hz0 hz1 hz2 rfl (by decide) _ _ _ rfl HO1.out ⟨W1.heap.size, 0, none⟩ 1 1 (cutR x).cs rfl (by rw [Rec.cs_len HCL.out]) HNW.out (Rec.cs_one _) (by rw [HTL.out]; unfold maxLen; omega) (by rw [HTL.out]; omega) HS1.out ?_))
        intro v2 W2 ho2 hg2 _
        have HO2 : Hid (W2.ownsRow w.heap.size 27 38 v2 ((l.take (k + 1)).map cutR).length (((l.take (k + 1)).map cutR).flatMap Rec.cs)) := by
          show World.ownsRow _ _ _ _ _ _ _
          rw [HTK.out, List.length_append, List.flatMap_append]
          simpa using ho2
        have HB2 : Hid (Below w.heap.size w W2) := HBA.out.trans ((Below.refl _ _).grown hg2 HS1.out (fun j hj => (HO1.out.lt j hj).1))
        clear ho2 hg2 HO1 HNW
        go_wp2
        go_round
        case rel => exact ⟨k + 1, by omega, by omega, by go_num, HO2.out, HB2.out⟩
        case measure => simp [intOf]; omega
      · have hkz : (k : Int) < (len : Int) := by omega
        have hk2 : ¬ (k : Int) < 20 := by omega
        have hke : k = 20 := by omega
        subst hke
        obtain ⟨a', cap', hv', hr'⟩ := Rr.own HO.out (fun r q => by
          obtain ⟨y, hy, rfl⟩ := List.mem_map.1 q
          exact cut_rv ((HR.out.fits y (List.mem_of_mem_take hy)).later HB.out))
        have HRR : Hid (Rr wr a' cap' (fewL l)) := hr'
        clear hr'
        have hv2 : _ = Value.slice a' (fewL l).length cap' := hv'
        subst hv2
        clear hv'
        go_wp2
        go_ret
        exact ⟨_, _, rfl, HRR.out, HB.out⟩
    · have hkl : k = len := by omega
      have hkz : ¬ (k : Int) < (len : Int) := by omega
      have HT : Hid (l.take k = l.take 20) := by
        show _ = _
        rw [List.take_of_length_le (by rw [← HL.out]; omega), List.take_of_length_le (by rw [← HL.out]; omega)]
      rw [HT.out] at HO
      obtain ⟨a', cap', hv', hr'⟩ := Rr.own HO.out (fun r q => by
        obtain ⟨y, hy, rfl⟩ := List.mem_map.1 q
        exact cut_rv ((HR.out.fits y (List.mem_of_mem_take hy)).later HB.out))
      have HRR : Hid (Rr wr a' cap' (fewL l)) := hr'
      clear hr'
      have hv2 : _ = Value.slice a' (fewL l).length cap' := hv'
      subst hv2
      clear hv'
      go_wp2
      go_ret
      exact ⟨_, _, rfl, HRR.out, HB.out⟩
end Go.Proofs.YtpbaacplgohniaaDoor
