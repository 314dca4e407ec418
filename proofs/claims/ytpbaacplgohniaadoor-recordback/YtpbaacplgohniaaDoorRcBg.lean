/-
  record's Parse: parse.Of, the closure, Caught.
-/
import Derived.Test.YtpbaacplgohniaaDoorRcBf
import Derived.Defers
import Derived.Recover
import Derived.Laws.Pointers
namespace Go.Proofs.YtpbaacplgohniaaDoor
open Go.ChangeShapes Go.WideShapes Go.ChangeAt Go.RowKit Go.Deep

theorem size84 : (Tryd.prog.info? 84).map (·.size) = some 1 := by kernel_rfl
set_option maxRecDepth 100000 in
theorem of_word (a : Option Addr) (n cap : Nat) (w : World) : Calls Tryd.prog 42 #[.slice a n cap] w fun e w' => e = .returned (.agg #[.slice a n cap]) ∧ Below w.heap.size w w' := by
  go_enter Tryd.func42, Tryd.ntmps42
  go_wp2
  refine bodyPost_ret (results_cell_row (ty := 84) rfl _ _ _ _ _ _ _ rfl (heap_alc w _) Tryd.underlying84 rfl size84) rfl ?_
  exact ⟨rfl, bel_alc _ _⟩
/-- What the closure answers, or where it panics. -/
def ParP (w : World) (zs : List Int) (e : Ending) (w' : World) : Prop :=
  Below w.heap.size w w' ∧ ((e = .panicked faultC ∧ parO zs = none) ∨ ∃ r a c, parO zs = some r ∧ e = .returned (.agg { r with a := a, cap := c }.cs.toArray) ∧ Rv w' { r with a := a, cap := c } ∧ Red r ∧ ∀ b off, a = some ⟨b, off, none⟩ → w.heap.size ≤ b)
theorem par_none {zs : List Int} (h : redR zs = none) : parO zs = none := by unfold parO; rw [h]
theorem par_more {zs : List Int} {r : Rec} {z : Int} {rs : List Int} (h : redR zs = some (r, z :: rs)) : parO zs = none := by unfold parO; rw [h]
theorem par_no {zs : List Int} {r : Rec} (h : redR zs = some (r, [])) (hm : mayB r = false) : parO zs = none := by unfold parO; rw [h]; simp [hm]
theorem par_yes {zs : List Int} {r : Rec} (h : redR zs = some (r, [])) (hm : mayB r = true) : parO zs = some r := by unfold parO; rw [h]; simp [hm]
theorem wpList_store_asP {P : Program} {ops : Array Oper} {rest : List Oper} {o : Oper} {a : Act} {w : World} {Q : Exit → Act → World → Prop} (hgd : o.guard = none) (ty : TypeId) (x y : Operand) (ho : o.op = .store ty x y) (hd : o.dst = none)
    (W : World) (old cells : Array Value) (hw : w = W.alloc (.cells old ty)) (hx : a.eval x = .pointer (some ⟨W.heap.size, 0, none⟩)) (hy : a.eval y = .agg cells) (hi : (P.info? ty).map (·.size) = some cells.size)
    (hold : old.size = cells.size) (h1 : cells.all (·.oneCell') = true) (V : World) (hV : V = W.alloc (.cells cells ty)) (h : wpList P ops Q rest a V) : wpList P ops Q (o :: rest) a w := by
  subst hV
  exact wpList_store_new hgd ty x y ho hd W old cells hw hx hy hi hold h1 h
set_option maxHeartbeats 16000000 in
set_option maxRecDepth 100000 in
theorem pcl_word (pb : Nat) (a : Option Addr) (cap : Nat) (zs : List Int) (w : World) (hc : w.cell? ⟨pb, 0, none⟩ = some (.slice a zs.length cap)) (hr : Ri w .u8 a cap zs) :
    Calls Tryd.prog 41 #[.pointer (some ⟨pb, 0, none⟩)] w (ParP w zs) := by
  have hlt := cell_lt hc
  have b1 := bel_alc w (.cells recZ.cs.toArray 27)
  have o1 := heap_alc w (.cells recZ.cs.toArray 27)
  have c1 : (w.alloc (.cells recZ.cs.toArray 27)).cell? ⟨pb, 0, none⟩ = some (.slice a zs.length cap) := (b1.cell hlt).trans hc
  have HOF := hid (fun V => of_word a zs.length cap V)
  have HB1 := hid b1
  have HO1 := hid o1
  have HR := hid hr
  have HBY : Hid (By zs) := all_u8 hr.fits
  obtain ⟨PP, hPP⟩ : ∃ P : Ending → World → Prop, P = ParP w zs := ⟨_, rfl⟩
  have HPP := hid hPP
  rw [← hPP]
  clear hlt b1 o1 hc hr hPP
  obtain ⟨LZ, hLZ⟩ : ∃ n, n = zs.length := ⟨_, rfl⟩
  have HLZ := hid hLZ
  rw [← hLZ] at c1 HOF
  clear hLZ
  go_enter Tryd.func41, Tryd.ntmps41
  go_wp2_with (first | refine wpList_alloc_at rfl 27 rfl (some 1) rfl _ Tryd.zero27 w.heap.size rfl ?_ | fail)
  refine (HOF.out _).mono ?_
  rintro _ W2 ⟨rfl, hb2⟩
  have HB2 := hid (Bn HB1.out hb2)
  have HO2 := hid ((hb2.block _ (Array.getElem?_eq_some_iff.1 HO1.out).1).trans HO1.out)
  clear hb2 c1 HB1 HO1 HOF
  go_wp2_with fail
  have hb3 := bel_alc W2 (.cells #[.slice a LZ cap] 87)
  have HB3 := hid (Bn HB2.out hb3)
  have HO3 := hid ((hb3.block _ (Array.getElem?_eq_some_iff.1 HO2.out).1).trans HO2.out)
  have HD3 : Hid (Rd w (W2.alloc (.cells #[.slice a LZ cap] 87)) W2.heap.size a cap zs) := ⟨by rw [← HLZ.out]; exact heap_alc W2 _, HR.out, HB3.out, HB2.out.size⟩
  have HGN : Hid (w.heap.size < W2.heap.size) := (Array.getElem?_eq_some_iff.1 HO2.out).1
  have HGS : Hid (w.heap.size ≤ W2.heap.size) := HB2.out.size
  clear hb3 HB2 HO2
  generalize W2.heap.size = g at *
  generalize W2.alloc (.cells #[.slice a LZ cap] 87) = X3 at *
  refine (record_word w X3 g a cap zs HD3.out).mono ?_
  intro e4 V4 q4
  cases hrr : redR zs with
  | none =>
    rw [hrr] at q4
    obtain ⟨rfl, hb4⟩ := q4
    refine ⟨rfl, ?_⟩
    rw [HPP.out]
    exact ⟨HB3.out.trans (hb4.below HGS.out HB3.out.size), .inl ⟨rfl, par_none hrr⟩⟩
  | some q =>
    obtain ⟨r, rs⟩ := q
    rw [hrr] at q4
    obtain ⟨pa, pc, rfl, hrp, a4, c4, hd4, hb4, hpf⟩ := q4
    have HPF : Hid (∀ b off, pa = some ⟨b, off, none⟩ → w.heap.size < b) := fun b off q => by
      have h1 := hpf b off q
      have h2 := HD3.out.lt
      have h3 := HGN.out
      omega
    clear hpf
    have HRE := hid (red_one hrr HBY.out).1
    have HRR := hid hrr
    have HB4 : Hid (Below w.heap.size w V4) := HB3.out.trans (hb4.below HGS.out HB3.out.size)
    have HO4 : Hid (V4.heap[w.heap.size]? = some (.cells recZ.cs.toArray 27)) := (hb4.same _ (Array.getElem?_eq_some_iff.1 HO3.out).1 (by have := HGN.out; omega)).trans HO3.out
    obtain ⟨R, hR⟩ : ∃ R : Rec, R = { r with a := pa, cap := pc } := ⟨_, rfl⟩
    have HRQ := hid hR
    rw [← hR]
    have HRV4 : Hid (Rv V4 R) := by rw [hR]; exact HRE.out.rv hrp
    have HML : Hid (mayB R = mayB r) := by rw [hR]; rfl
    have HRL := hid HRV4.out.len
    have hb5 := bel_alc V4 (.cells R.cs.toArray 27)
    have HB5 := hid (Bn HB4.out hb5)
    have HO5 := hid ((hb5.block _ (Array.getElem?_eq_some_iff.1 HO4.out).1).trans HO4.out)
    have HD5 := hid (hd4.later hb5)
    have HRV5 := hid (HRV4.out.later hb5)
    have HX5 := hid (Bx.mk' V4 R HRL.out)
    have HN5 : Hid (w.heap.size < V4.heap.size) := (Array.getElem?_eq_some_iff.1 HO4.out).1
    obtain ⟨X5, hX5⟩ : ∃ X, X = V4.alloc (.cells R.cs.toArray 27) := ⟨_, rfl⟩
    have HE5 := hid hX5
    rw [← hX5] at HB5 HO5 HD5 HRV5 HX5
    clear hrr hb4 hrp hd4 hb5 hX5 hR HB3 HO3 HD3 HRV4
    have HLW := hid (len_word w X5 g a4 c4 rs HD5.out)
    have HMW := hid (may_word R X5 HRV5.out)
    have HXR := hid HX5.out.range
    obtain ⟨LR, hLR⟩ : ∃ n, n = rs.length := ⟨_, rfl⟩
    have HLR := hid hLR
    rw [← hLR] at HLW
    clear hLR
    go_wp2_with (first | refine wpList_alloc_at rfl 27 rfl (some 3) rfl _ Tryd.zero27 V4.heap.size rfl ?_ | refine wpList_store_asP rfl 27 _ _ rfl rfl V4 recZ.cs.toArray R.cs.toArray rfl rfl rfl (size_recs HRL.out) (by rw [Rec.cs_size HRL.out]; rfl) (all_oneCell_toArray (Rec.cs_one _)) X5 HE5.out ?_ | fail)
    refine HLW.out.mono ?_
    rintro _ w1 ⟨rfl, hw⟩
    obtain rfl := hw.symm
    clear hw HLW
    cases rs with
    | cons z rs =>
      have hz : ((LR : Int) == 0) = false := by rw [beq_eq_false_iff_ne]; have := HLR.out; simp at this; omega
      have hz2 : (LR == 0) = false := by rw [beq_eq_false_iff_ne]; have := HLR.out; simp at this; omega
      go_wp2_with fail
      refine (need_no _).mono ?_
      rintro _ w1 ⟨rfl, hw⟩
      obtain rfl := hw.symm
      refine ⟨rfl, ?_⟩
      rw [HPP.out]
      exact ⟨HB5.out, .inl ⟨rfl, par_more HRR.out⟩⟩
    | nil =>
      have hlr : LR = 0 := HLR.out
      subst hlr
      go_wp2_with (first | refine wpList_load_g rfl 27 _ rfl V4.heap.size 0 rfl R.cs _ HXR.out Tryd.underlying27 rfl (by rw [Rec.cs_len HRL.out]; exact Tryd.size27) ?_ | fail)
      refine HMW.out.mono ?_
      rintro _ W6 ⟨rfl, hb6⟩
      have HB6 := hid (Bn HB5.out hb6)
      have HO6 := hid ((hb6.block _ (Array.getElem?_eq_some_iff.1 HO5.out).1).trans HO5.out)
      have HX6 := hid (HX5.out.later hb6).range
      have HRV6 := hid (HRV5.out.later hb6)
      clear hb6 HMW HXR HX5
      cases hm : mayB R with
      | false =>
        have HM : Hid (mayB r = false) := HML.out.symm.trans hm
        clear hm
        go_wp2_with fail
        refine (need_no _).mono ?_
        rintro _ w1 ⟨rfl, hw⟩
        obtain rfl := hw.symm
        refine ⟨rfl, ?_⟩
        rw [HPP.out]
        exact ⟨HB6.out, .inl ⟨rfl, par_no HRR.out HM.out⟩⟩
      | true =>
        have HM : Hid (mayB r = true) := HML.out.symm.trans hm
        clear hm
        go_wp2_with fail
        refine (need_yes _).mono ?_
        rintro _ w1 ⟨rfl, hw⟩
        obtain rfl := hw.symm
        clear hw
        go_wp2_with (first | refine wpList_load_g rfl 27 _ rfl V4.heap.size 0 rfl R.cs _ HX6.out Tryd.underlying27 rfl (by rw [Rec.cs_len HRL.out]; exact Tryd.size27) ?_ | refine wpList_store_rowTo rfl 27 _ _ rfl rfl w.heap.size R.cs.toArray rfl rfl 27 _ HO6.out (size_recs HRL.out) (by rw [Rec.cs_size HRL.out]; rfl) (all_oneCell_toArray (Rec.cs_one _)) ?_ | fail)
        refine bodyPost_ret (results_cell_row (ty := 27) rfl _ _ _ _ _ _ _ rfl (setRow_heap _ _ _ _ _ _ HO6.out) Tryd.underlying27 rfl (size_recs HRL.out)) rfl ?_
        rw [HPP.out]
        refine ⟨below_setRow HB6.out (Nat.le_refl _) _, .inr ⟨r, pa, pc, par_yes HRR.out HM.out, by rw [HRQ.out], ?_, HRE.out, fun b off q => Nat.le_of_lt (HPF.out b off q)⟩⟩
        have hv := HRV6.out
        rw [HRQ.out] at hv ⊢
        exact ⟨hv.len, hv.u8, hv.seq, hv.epoch, hv.kind, hv.site, hv.path, hv.row.kept (fun b off q => other_setRow _ _ _ _ (by have := HPF.out b off q; omega))⟩
theorem results60 : Tryd.f60.results = #[] := rfl
set_option maxRecDepth 100000 in
theorem catch_idle (p q : Addr) (w : World) :
    CallsD Tryd.prog 60 #[.pointer (some p), .pointer (some q)] .returning w fun e u' w' => e = .returned (.tuple #[]) ∧ u' = .returning ∧ w' = w := by
  refine callsD_of_wpS Tryd.func60 rfl fun c₀ cs hu => ?_
  apply wpS_seq
  apply wpS_region
  simp [wpOpsS, go_sem, recoverD, hu, Tryd.ntmps60, Exit.thenS]
  refine wpS_of_wp ?_
  change Code.wp _ _ _ ⟨#[.pointer (some p), .pointer (some q), .nilIface, undef, undef, .nilIface, undef, undef, undef, undef, undef, undef, undef, undef, undef, undef, undef], []⟩ w
  generalize hQ : (fun (x : Exit) (a : Act) (w' : World) => bodyPostS Tryd.prog Tryd.f60 c₀ cs (fun e u' w' => e = Ending.returned (Value.tuple #[]) ∧ u' = FrameMode.returning ∧ w' = w) x a (c₀ :: cs) w') = Q
  go_wp2
  subst hQ
  refine ⟨rfl, .returning, ?_, .tuple #[], results_none rfl _ _ _, rfl, rfl, rfl⟩
  cases c₀
  simp_all
theorem assert106 (w : World) : (Instr.typeAssert (.iface 106 (.agg #[])) 20 106 true).run Tryd.prog w = .ok (.tuple #[.agg #[], .bool true]) w := by kernel_rfl
set_option maxRecDepth 100000 in
theorem catch_fault (p q : Addr) (x e : Int) (w : World) (hp : w.cell? p = some (.int .i64 e)) (hc : w.cell? q = some (.int .i64 x)) (hz : w.frozen? q = false) :
    CallsD Tryd.prog 60 #[.pointer (some p), .pointer (some q)] (.panicking faultC) w fun e' u' w' => e' = .returned (.tuple #[]) ∧ u' = .panicking [{ v := .iface 106 (.agg #[]), recovered := true }] ∧ w' = (w.alloc (.cells #[] 106)).setCell q (.int .i64 e) := by
  refine callsD_of_wpS Tryd.func60 rfl fun c₀ cs hu => ?_
  apply wpS_seq
  apply wpS_region
  simp [wpOpsS, go_sem, recoverD, hu, Tryd.ntmps60, Exit.thenS]
  refine wpS_of_wp ?_
  have hb := bel_alc w (.cells #[] 106)
  have hc2 : (w.alloc (.cells #[] 106)).cell? q = some (.int .i64 x) := (hb.cell (cell_lt hc)).trans hc
  have hp2 : (w.alloc (.cells #[] 106)).cell? p = some (.int .i64 e) := (hb.cell (cell_lt hp)).trans hp
  have hz2 : (w.alloc (.cells #[] 106)).frozen? q = false := (hb.frozen (cell_lt hc)).trans hz
  have A := assert106
  clear hc hz hb hp
  change Code.wp _ _ _ ⟨#[.pointer (some p), .pointer (some q), .iface 106 (.agg #[]), undef, undef, .iface 106 (.agg #[]), undef, undef, undef, undef, undef, undef, undef, undef, undef, undef, undef], []⟩ w
  go_wp2
  exact ⟨rfl, _, rfl, .tuple #[], results_none rfl _ _ _, rfl, rfl, rfl⟩
/-- What Parse answers. -/
def CauP (B : Nat) (zs : List Int) (w' : World) (R : Rec) (e : Int) : Prop := (parO zs = none ∧ R = recZ ∧ e = 130) ∨ ∃ r a c, parO zs = some r ∧ R = { r with a := a, cap := c } ∧ e = 0 ∧ Red r ∧ Rv w' R ∧ ∀ b off, a = some ⟨b, off, none⟩ → B ≤ b
theorem results_two {P : Program} {fn : Func} {p u : Tmp} {ty tu : TypeId} (h : fn.results = #[.cell p ty, .cell u tu]) (tmps : Array Value) (w : World) (g g2 : Nat) (v v2 : Value) (hp : tmps.getD p undef = .pointer (some ⟨g, 0, none⟩)) (hu : tmps.getD u undef = .pointer (some ⟨g2, 0, none⟩)) (hl : (loadVar ty ⟨g, 0, none⟩).run P w = .ok v w) (hl2 : (loadVar tu ⟨g2, 0, none⟩).run P w = .ok v2 w) :
    (results fn tmps).run P w = .ok (.tuple #[v, v2]) w := by
  rw [Array.getD_eq_getD_getElem?] at hp hu
  simp [results, h, hp, hu, asAddr, hl, hl2]
theorem load30 {w : World} {g : Nat} {x : Int} (h : w.cell? ⟨g, 0, none⟩ = some (.int .i64 x)) : (loadVar 30 ⟨g, 0, none⟩).run Tryd.prog w = .ok (.int .i64 x) w := by
  simp [go_sem, h]
theorem Tryd.results40 : Tryd.f40.results = #[.cell 4 27, .cell 5 30] := rfl
set_option maxHeartbeats 16000000 in
set_option maxRecDepth 100000 in
theorem caught_word (pb : Nat) (a : Option Addr) (cap : Nat) (zs : List Int) (w : World) (hc : w.cell? ⟨pb, 0, none⟩ = some (.slice a zs.length cap)) (hr : Ri w .u8 a cap zs) :
    Calls Tryd.prog 40 #[.int .i64 130, .func (.func 41) #[] #[.pointer (some ⟨pb, 0, none⟩)]] w fun e w' => ∃ R e', e = .returned (.tuple #[.agg R.cs.toArray, .int .i64 e']) ∧ Below w.heap.size w w' ∧ CauP w.heap.size zs w' R e' := by
  have hmf : ∀ (fn : Fn) (first cap : Array Value) (w : World), (Instr.makeFunc fn first cap).run Tryd.prog w = .ok (.func fn first cap) w := fun _ _ _ _ => rfl
  have s1 : (w.alloc (.cells #[.int .i64 130] 30)).heap.size = w.heap.size + 1 := by simp
  have s2 : ((w.alloc (.cells #[.int .i64 130] 30)).alloc (.cells recZ.cs.toArray 27)).heap.size = w.heap.size + 1 + 1 := by simp
  have b1 := bel_alc w (.cells #[.int .i64 130] 30)
  have b2 := bel_alc (w.alloc (.cells #[.int .i64 130] 30)) (.cells recZ.cs.toArray 27)
  have b3 := bel_alc ((w.alloc (.cells #[.int .i64 130] 30)).alloc (.cells recZ.cs.toArray 27)) (.cells #[.int .i64 0] 30)
  have e0 := heap_old _ (.cells #[.int .i64 0] 30) (heap_old _ (.cells recZ.cs.toArray 27) (heap_alc w (.cells #[.int .i64 130] 30)))
  have e1 := heap_old _ (.cells #[.int .i64 0] 30) (heap_alc (w.alloc (.cells #[.int .i64 130] 30)) (.cells recZ.cs.toArray 27))
  have e2 := heap_alc ((w.alloc (.cells #[.int .i64 130] 30)).alloc (.cells recZ.cs.toArray 27)) (.cells #[.int .i64 0] 30)
  rw [s1] at e1
  rw [s2] at e2
  have bb := Bn (Bn b1 b2) b3
  obtain ⟨W0, hW0⟩ : ∃ W, W = ((w.alloc (.cells #[.int .i64 130] 30)).alloc (.cells recZ.cs.toArray 27)).alloc (.cells #[.int .i64 0] 30) := ⟨_, rfl⟩
  rw [← hW0] at e0 e1 e2 bb
  have HC := hid (pcl_word pb a cap zs W0 ((bb.cell (cell_lt hc)).trans hc) (hr.later bb))
  have HE0 := hid e0
  have HE1 := hid e1
  have HE2 := hid e2
  have HBB := hid bb
  have HW0 := hid hW0
  have HS1 := hid s1.symm
  clear hc hr b1 b2 b3 e0 e1 e2 bb s1 s2 hW0
  go_enter_defers Tryd.func40, Tryd.ntmps40
  go_wp2_with (first | refine wpList_alloc_at rfl 27 rfl (some 4) rfl _ Tryd.zero27 (w.heap.size + 1) HS1.out ?_ | fail)
  rw [← HW0.out]
  refine HC.out.mono ?_
  rintro e w1 ⟨hb, ⟨rfl, hpn⟩ | ⟨r, ra, rc, hpo, rfl, hrv, hred, hpf⟩⟩
  · have f0 := (hb.block _ (Array.getElem?_eq_some_iff.1 HE0.out).1).trans HE0.out
    have f1 := (hb.block _ (Array.getElem?_eq_some_iff.1 HE1.out).1).trans HE1.out
    have f2 := (hb.block _ (Array.getElem?_eq_some_iff.1 HE2.out).1).trans HE2.out
    have c0 : w1.cell? ⟨w.heap.size, 0, none⟩ = some (.int .i64 130) := (Joins.cell_of_block f0 0).trans rfl
    have c2 : w1.cell? ⟨w.heap.size + 1 + 1, 0, none⟩ = some (.int .i64 0) := (Joins.cell_of_block f2 0).trans rfl
    have u2 : w1.frozen? ⟨w.heap.size + 1 + 1, 0, none⟩ = false := Joins.unfrozen_of_block f2 0
    have hb1 := bel_alc w1 (.cells #[] 106)
    have HBE : Hid (Below w.heap.size w ((w1.alloc (.cells #[] 106)).setCell ⟨w.heap.size + 1 + 1, 0, none⟩ (.int .i64 130))) := (Bn (Bn HBB.out hb) hb1).setCell (p := ⟨w.heap.size + 1 + 1, 0, none⟩) (show w.heap.size ≤ w.heap.size + 1 + 1 by omega) _
    have g1 : ((w1.alloc (.cells #[] 106)).setCell ⟨w.heap.size + 1 + 1, 0, none⟩ (.int .i64 130)).heap[w.heap.size + 1]? = some (.cells recZ.cs.toArray 27) := (Deep.blk_setCell_other _ _ _ _ (by show w.heap.size + 1 ≠ w.heap.size + 1 + 1; omega)).trans (heap_old _ _ f1)
    have g2 : ((w1.alloc (.cells #[] 106)).setCell ⟨w.heap.size + 1 + 1, 0, none⟩ (.int .i64 130)).cell? ⟨w.heap.size + 1 + 1, 0, none⟩ = some (.int .i64 130) := by
      have e3 := Joins.block_setCell (v := .int .i64 130) (i := 0) (heap_old w1 (.cells #[] 106) f2)
      simpa using Joins.cell_of_block e3 0
    have hld := load_recs g1 rfl
    clear hb f0 f1 f2 hb1 g1 HC
    refine leaves_cons (f := 60) (args := #[.pointer (some ⟨w.heap.size, 0, none⟩), .pointer (some ⟨w.heap.size + 1 + 1, 0, none⟩)]) (by simp) (by simp [go_sem]) ?_
    refine (catch_fault ⟨w.heap.size, 0, none⟩ ⟨w.heap.size + 1 + 1, 0, none⟩ 0 130 w1 c0 c2 u2).mono ?_
    rintro e u' w'' ⟨rfl, rfl, rfl⟩
    generalize (w1.alloc (.cells #[] 106)).setCell ⟨w.heap.size + 1 + 1, 0, none⟩ (.int .i64 130) = W at *
    refine ⟨_, results_two Tryd.results40 _ W (w.heap.size + 1) (w.heap.size + 1 + 1) _ _ rfl rfl hld (load30 g2), recZ, 130, rfl, HBE.out, .inl ⟨hpn, rfl, rfl⟩⟩
  · have f1 := (hb.block _ (Array.getElem?_eq_some_iff.1 HE1.out).1).trans HE1.out
    have f2 := (hb.block _ (Array.getElem?_eq_some_iff.1 HE2.out).1).trans HE2.out
    obtain ⟨R, hR⟩ : ∃ R : Rec, R = { r with a := ra, cap := rc } := ⟨_, rfl⟩
    have HRQ := hid hR
    rw [← hR] at hrv ⊢
    have HPF : Hid (∀ b off, ra = some ⟨b, off, none⟩ → w.heap.size + 1 < b) := fun b off q => by
      have h1 := hpf b off q
      have h2 := (Array.getElem?_eq_some_iff.1 HE2.out).1
      omega
    have HRL := hid hrv.len
    have HF1 := hid f1
    have HRV := hid hrv
    have HPO := hid hpo
    have HRD := hid hred
    have HB1 := hid (Bn HBB.out hb)
    have f3 : (w1.setRow (w.heap.size + 1) R.cs.toArray).heap[w.heap.size + 1 + 1]? = some (.cells #[.int .i64 0] 30) := (other_setRow _ _ _ _ (by omega)).trans f2
    have c2 : (w1.setRow (w.heap.size + 1) R.cs.toArray).cell? ⟨w.heap.size + 1 + 1, 0, none⟩ = some (.int .i64 0) := (Joins.cell_of_block f3 0).trans rfl
    have u2 : (w1.setRow (w.heap.size + 1) R.cs.toArray).frozen? ⟨w.heap.size + 1 + 1, 0, none⟩ = false := Joins.unfrozen_of_block f3 0
    have HST := hid (setCell_same (v := .int .i64 0) (i := 0) f3 rfl)
    have HC2 := hid c2
    have HG1 : Hid ((w1.setRow (w.heap.size + 1) R.cs.toArray).heap[w.heap.size + 1]? = some (.cells R.cs.toArray 27)) := setRow_heap _ _ _ _ _ _ f1
    have HBE := hid (below_setRow HB1.out (show w.heap.size ≤ w.heap.size + 1 by omega) R.cs.toArray)
    clear hb f1 f2 f3 hrv hpo hred hR HC hpf
    go_wp2_with (first | refine wpList_store_rowTo rfl 27 _ _ rfl rfl (w.heap.size + 1) R.cs.toArray rfl rfl 27 _ HF1.out (size_recs HRL.out) (by rw [Rec.cs_size HRL.out]; rfl) (all_oneCell_toArray (Rec.cs_one _)) ?_ | fail)
    rw [HST.out]
    refine leaves_cons (f := 60) (args := #[.pointer (some ⟨w.heap.size, 0, none⟩), .pointer (some ⟨w.heap.size + 1 + 1, 0, none⟩)]) (by simp) (by simp [go_sem]) ?_
    refine (catch_idle ⟨w.heap.size, 0, none⟩ ⟨w.heap.size + 1 + 1, 0, none⟩ _).mono ?_
    rintro e u' w'' ⟨rfl, rfl, hw⟩
    obtain rfl := hw.symm
    clear hw
    refine ⟨_, results_two Tryd.results40 _ _ (w.heap.size + 1) (w.heap.size + 1 + 1) _ _ rfl rfl (load_recs HG1.out HRL.out) (load30 HC2.out), R, 0, rfl, HBE.out, .inr ⟨r, ra, rc, HPO.out, HRQ.out, rfl, HRD.out, ?_, fun b off q => by have := HPF.out b off q; omega⟩⟩
    have hv := HRV.out
    rw [HRQ.out] at hv ⊢
    exact ⟨hv.len, hv.u8, hv.seq, hv.epoch, hv.kind, hv.site, hv.path, hv.row.kept (fun b off q => other_setRow _ _ _ _ (by have := HPF.out b off q; omega))⟩
set_option maxHeartbeats 16000000 in
set_option maxRecDepth 100000 in
theorem parse_word (a : Option Addr) (cap : Nat) (zs : List Int) (w : World) (hr : Ri w .u8 a cap zs) (hl : zs.length ≤ 262144) :
    Calls Tryd.prog 23 #[.slice a zs.length cap] w fun e w' => ∃ R e', e = .returned (.tuple #[.agg R.cs.toArray, .int .i64 e']) ∧ Below w.heap.size w w' ∧ CauP w.heap.size zs w' R e' := by
  have hmf : ∀ (fn : Fn) (first cap : Array Value) (w : World), (Instr.makeFunc fn first cap).run Tryd.prog w = .ok (.func fn first cap) w := fun _ _ _ _ => rfl
  have s1 : (w.alloc (.cells #[.slice a zs.length cap] 29)).heap.size = w.heap.size + 1 := by simp
  have b1 := bel_alc w (.cells #[.slice a zs.length cap] 29)
  have b2 := bel_alc (w.alloc (.cells #[.slice a zs.length cap] 29)) (.cells recZ.cs.toArray 27)
  have e0 := heap_old _ (.cells recZ.cs.toArray 27) (heap_alc w (.cells #[.slice a zs.length cap] 29))
  have e1 := heap_alc (w.alloc (.cells #[.slice a zs.length cap] 29)) (.cells recZ.cs.toArray 27)
  rw [s1] at e1
  have bb := Bn b1 b2
  obtain ⟨W0, hW0⟩ : ∃ W, W = (w.alloc (.cells #[.slice a zs.length cap] 29)).alloc (.cells recZ.cs.toArray 27) := ⟨_, rfl⟩
  rw [← hW0] at e0 e1 bb
  have c0 : W0.cell? ⟨w.heap.size, 0, none⟩ = some (.slice a zs.length cap) := (Joins.cell_of_block e0 0).trans rfl
  have HC := hid (caught_word w.heap.size a cap zs W0 c0 (hr.later bb))
  have HE1 := hid e1
  have HBB := hid bb
  have HW0 := hid hW0
  have HS1 := hid s1.symm
  have hl2 : ¬ ((262144 : Int) < (zs.length : Int)) := by omega
  have hl3 : decide ((262144 : Int) < (zs.length : Int)) = false := decide_eq_false hl2
  have hl4 : decide (262144 < zs.length) = false := decide_eq_false (by omega)
  clear hr b1 b2 e0 e1 bb s1 hW0 hl
  generalize zs.length = LZ at *
  go_enter Tryd.func23, Tryd.ntmps23
  go_wp2_with (first | refine wpList_alloc_to rfl 27 rfl (some 2) rfl _ Tryd.zero27 (w.heap.size + 1) HS1.out W0 HW0.out ?_ | fail)
  refine HC.out.mono ?_
  rintro _ W1 ⟨R, e', rfl, hb1, hp⟩
  have HRL : Hid (R.prev.length = 32) := by
    rcases hp with ⟨_, rfl, _⟩ | ⟨r, ra, rc, _, rfl, _, hred, _, _⟩
    · rfl
    · exact hred.len
  have HO1 := hid ((hb1.block _ (Array.getElem?_eq_some_iff.1 HE1.out).1).trans HE1.out)
  have HB1 := hid (Bn HBB.out hb1)
  have HP := hid hp
  have HB0 := hid hb1
  clear hb1 hp HC
  go_wp2_with (first | refine wpList_store_rowTo rfl 27 _ _ rfl rfl (w.heap.size + 1) R.cs.toArray rfl rfl 27 _ HO1.out (size_recs HRL.out) (by rw [Rec.cs_size HRL.out]; rfl) (all_oneCell_toArray (Rec.cs_one _)) ?_ | fail)
  refine bodyPost_ret (results_row_tmp rfl _ _ (w.heap.size + 1) _ rfl (load_recs (setRow_heap _ _ _ _ _ _ HO1.out) HRL.out)) rfl ?_
  refine ⟨R, e', rfl, below_setRow HB1.out (by omega) _, ?_⟩
  rcases HP.out with q | ⟨r, ra, rc, q1, q2, q3, q4, hv, q5⟩
  · exact .inl q
  · refine .inr ⟨r, ra, rc, q1, q2, q3, q4, ?_, fun b off q => Nat.le_trans HBB.out.size (q5 b off q)⟩
    have h1 := (Array.getElem?_eq_some_iff.1 HE1.out).1
    rw [q2] at hv ⊢
    exact ⟨hv.len, hv.u8, hv.seq, hv.epoch, hv.kind, hv.site, hv.path, hv.row.kept (fun b off q => other_setRow _ _ _ _ (by have := q5 b off q; omega))⟩
end Go.Proofs.YtpbaacplgohniaaDoor
