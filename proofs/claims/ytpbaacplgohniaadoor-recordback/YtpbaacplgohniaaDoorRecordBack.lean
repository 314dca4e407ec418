/-
  RecordBack is proved for every input, as a tied card: a record is parsed of its bytes, and only such bytes are parsed; no condition but that the tables of package sha start as the text lays them.
-/
import Derived.Test.YtpbaacplgohniaaDoorRcQ
import Derived.Test.YtpbaacplgohniaaDoorRcBg
import Derived.Test.YtpbaacplgohniaaDoorRcY
namespace Go.Proofs.YtpbaacplgohniaaDoor.recordBack
open Go.ChangeShapes Go.WideShapes Go.ChangeAt Go.RowKit Go.Deep

theorem wpList_store_as {P : Program} {ops : Array Oper} {rest : List Oper} {o : Oper} {a : Act} {w : World} {Q : Exit → Act → World → Prop} (hgd : o.guard = none) (ty : TypeId) (x y : Operand) (ho : o.op = .store ty x y) (hd : o.dst = none)
    (W : World) (old cells : Array Value) (hw : w = W.alloc (.cells old ty)) (hx : a.eval x = .pointer (some ⟨W.heap.size, 0, none⟩)) (hy : a.eval y = .agg cells) (hi : (P.info? ty).map (·.size) = some cells.size)
    (hold : old.size = cells.size) (h1 : cells.all (·.oneCell') = true) (V : World) (hV : V = W.alloc (.cells cells ty)) (h : wpList P ops Q rest a V) : wpList P ops Q (o :: rest) a w := by
  subst hV
  exact wpList_store_new hgd ty x y ho hd W old cells hw hx hy hi hold h1 h
theorem cut_ps (r : Rec) : (cutR r).ps.length ≤ 1000 := by
  show (r.ps.take 60).length ≤ 1000
  simp
  omega
theorem same_self (r : Rec) (a : Option Addr) (c : Nat) : sameB { r with a := a, cap := c } r = true := decide_eq_true ⟨rfl, rfl, rfl, rfl, rfl, rfl, rfl⟩
/-- What stays while RecordBack goes on. -/
structure Bk (w X : World) (R : Rec) (a : Option Addr) (c : Nat) (zs : List Int) : Prop where
  box : Bx X w.heap.size R
  rv : Rv X R
  row : Ri X .u8 a c zs
  bel : Below w.heap.size w X
theorem Bk.later {w X Y : World} {R : Rec} {a : Option Addr} {c : Nat} {zs : List Int} (h : Bk w X R a c zs) (hb : Below X.heap.size X Y) : Bk w Y R a c zs :=
  ⟨h.box.later hb, h.rv.later hb, h.row.later hb, Bn h.bel hb⟩
theorem range_rc {X : World} {g : Nat} {A : Rec} (h : X.heap[g]? = some (.cells A.cs.toArray 27)) : X.rangeAt g 0 A.cs := fun j v hv => by
  rw [Nat.zero_add, Joins.cell_of_block h j, List.getElem?_toArray]
  exact hv
theorem blk_later {X Y : World} {g : Nat} {o : Obj} (h : X.heap[g]? = some o) (hb : Below X.heap.size X Y) : Y.heap[g]? = some o := (hb.block _ (Array.getElem?_eq_some_iff.1 h).1).trans h
set_option maxHeartbeats 16000000 in
set_option maxRecDepth 100000 in
theorem walk_short (r : Rec) (ab : Option Addr) (cb : Nat) (zs : List Int) (w : World) (hr : Rv w r) (hz : Ri w .u8 ab cb zs) (h3 : ¬ 3000 < zs.length) :
    Calls Tryd.prog 6 #[.agg r.cs.toArray, .slice ab zs.length cb] w fun e w' => e = .returned (.bool true) ∧ Below w.heap.size w w' := by
  have b1 := bel_alc w (.cells r.cs.toArray 27)
  have x1 := Bx.mk' w r hr.len
  have HXA := hid x1.range
  obtain ⟨W0, hW0⟩ : ∃ W0, W0 = w.alloc (.cells r.cs.toArray 27) := ⟨_, rfl⟩
  rw [← hW0] at b1 x1
  have HX1 := hid x1
  have HB1 := hid b1
  have HV := hid (hr.later b1)
  have HR := hid hr
  have HZ := hid hz
  have hroom := hz.room
  have hmost := hz.most
  unfold maxLen at hmost
  have HCW := hid (cut_word r W0 HV.out)
  have HPS := hid (cut_ps r)
  have HL0 := hid hr.len
  obtain ⟨LZ, hLZ⟩ : ∃ n, n = zs.length := ⟨_, rfl⟩
  have HLZ := hid hLZ
  rw [← hLZ] at hroom h3 ⊢
  clear b1 x1 hr hz hLZ
  have h3i : ¬ ((3000 : Int) < (LZ : Int)) := by omega
  go_enter Tryd.func6, Tryd.ntmps6
  go_wp2_with (first | refine wpList_load_g rfl 27 _ rfl w.heap.size 0 rfl r.cs _ HXA.out Tryd.underlying27 rfl (by rw [Rec.cs_len HL0.out]; exact Tryd.size27) ?_ | fail)
  rw [← hW0]
  refine HCW.out.mono ?_
  rintro _ V1 ⟨rfl, hb2⟩
  have HRL : Hid ((cutR r).prev.length = 32) := HL0.out
  have HO := hid (HX1.out.later hb2).blk
  have HBX := hid (below_setRow (Bn HB1.out hb2) (Nat.le_refl _) (cutR r).cs.toArray)
  have HVR := hid (cut_rv (HR.out.later HBX.out))
  have HXR : Hid (Bx (V1.setRow w.heap.size (cutR r).cs.toArray) w.heap.size (cutR r)) := ⟨setRow_heap _ _ _ _ _ _ HO.out, HRL.out⟩
  have HZS := hid ((HZ.out.later HBX.out).take 3000)
  clear hb2 hW0 HCW HB1 HX1 HV
  generalize cutR r = R at *
  obtain ⟨X, hX⟩ : ∃ X, X = V1.setRow w.heap.size R.cs.toArray := ⟨_, rfl⟩
  rw [← hX] at HBX HVR HXR HZS
  have K0 : Hid (Bk w X R ab cb (zs.take 3000)) := ⟨HXR.out, HVR.out, HZS.out, HBX.out⟩
  have HXX := hid HXR.out.range
  clear HXR HVR HZS HBX HR
  go_wp2_with (first | refine wpList_store_rowTo rfl 27 _ _ rfl rfl w.heap.size R.cs.toArray rfl rfl 27 _ HO.out (size_recs HRL.out) (by rw [Rec.cs_size HRL.out, Rec.cs_size HL0.out]) (all_oneCell_toArray (Rec.cs_one _)) ?_ | refine wpList_load_g rfl 27 _ rfl w.heap.size 0 rfl R.cs _ (by rw [← hX]; exact HXX.out) Tryd.underlying27 rfl (by rw [Rec.cs_len HRL.out]; exact Tryd.size27) ?_ | fail)
  rw [← hX]
  have HLT : Hid ((zs.take 3000).length = LZ) := by show _ = _; rw [List.length_take, ← HLZ.out]; omega
  have HZL : Hid ((zs.take 3000).length ≤ 262144) := by have := HLT.out; show _ ≤ _; omega
  have HBYS : Hid (By (zs.take 3000)) := all_u8 K0.out.row.fits
  rw [← HLT.out]
  clear hX HLT HXX HO h3 h3i hroom hmost HLZ HZ
  generalize zs.take 3000 = ZS at *
  have HBY0 := hid (bytes_word R X K0.out.rv)
  cases hm : mayB R with
  | false =>
    rw [hm] at HBY0
    clear hm
    refine HBY0.out.mono ?_
    rintro _ X1 ⟨v1, rfl, hc1, hp1⟩
    have K1 := hid (K0.out.later hc1)
    rcases hp1 with ⟨_, rfl⟩ | ⟨q, _⟩
    · clear hc1 HBY0
      rw [show e130 false = 130 from rfl]
      go_wp2_with fail
      refine (parse_word ab cb ZS X1 K1.out.row HZL.out).mono ?_
      rintro _ YA ⟨Z, e9, rfl, hb9, hp9⟩
      have HZN : Hid (Z.prev.length = 32) := by
        rcases hp9 with ⟨_, rfl, _⟩ | ⟨_, _, _, _, rfl, _, hred, _, _⟩
        · rfl
        · exact hred.len
      have hbb := bel_alc YA (.cells Z.cs.toArray 27)
      have K9 := hid (K1.out.later (Bn hb9 hbb))
      have E9 := hid (heap_alc YA (.cells Z.cs.toArray 27))
      have HP9 := hid hp9
      obtain ⟨X9, hX9⟩ : ∃ X, X = YA.alloc (.cells Z.cs.toArray 27) := ⟨_, rfl⟩
      have HX9 := hid hX9
      rw [← hX9] at K9 E9
      have HYX : Hid (Below YA.heap.size YA X9) := by rw [hX9]; exact hbb
      clear hb9 hbb hX9 hp9
      rcases HP9.out with ⟨q1, q2, q3⟩ | ⟨z, za, zc, q1, q2, q3, q4, q5, _⟩
      · subst q2 q3
        have HSW := hid (dsame_word recZ recZ X9 (recZ_rv _) (recZ_rv _))
        rw [show sameB recZ recZ = true from decide_eq_true ⟨rfl, rfl, rfl, rfl, rfl, rfl, rfl⟩] at HSW
        clear q1 HP9
        go_wp2_with (first | refine wpList_alloc_at rfl 27 rfl (some 9) rfl _ Tryd.zero27 YA.heap.size rfl ?_ | refine wpList_store_as rfl 27 _ _ rfl rfl YA recZ.cs.toArray recZ.cs.toArray rfl rfl rfl (size_recs rfl) rfl (all_oneCell_toArray (Rec.cs_one _)) X9 HX9.out ?_ | refine wpList_load_g rfl 27 _ rfl YA.heap.size 0 rfl recZ.cs _ (range_rc E9.out) Tryd.underlying27 rfl (by rw [Rec.cs_len HZN.out]; exact Tryd.size27) ?_ | refine wpList_buildTo rfl 27 _ rfl (some 48) rfl recZ.cs.toArray Tryd.built27 ?_ | fail)
        refine HSW.out.mono ?_
        rintro _ X10 ⟨rfl, hc10⟩
        have HB10 := hid (Bn K9.out.bel hc10)
        have HAV := hid (alive_word X10)
        clear hc10 HSW
        go_wp2_with fail
        refine HAV.out.mono ?_
        rintro _ X11 ⟨rfl, hc11⟩
        have HB11 := hid (Bn HB10.out hc11)
        clear hc11 HAV
        go_wp2
        go_ret
        exact ⟨rfl, HB11.out⟩
      · subst q3
        obtain ⟨p1, p2, p3⟩ := par_one q1 HBYS.out
        have HRV9 : Hid (Rv X9 Z) := q5.later HYX.out
        have HMB : Hid (mayB Z = true) := by show _ = _; rw [q2]; exact p2
        have HWR : Hid (wrB Z = ZS) := by show _ = _; rw [q2]; exact p3
        have HBW := hid (bytes_word Z X9 HRV9.out)
        rw [HMB.out, HWR.out] at HBW
        clear q1 q2 q4 q5 p1 p2 p3 HP9
        go_wp2_with (first | refine wpList_alloc_at rfl 27 rfl (some 9) rfl _ Tryd.zero27 YA.heap.size rfl ?_ | refine wpList_store_as rfl 27 _ _ rfl rfl YA recZ.cs.toArray Z.cs.toArray rfl rfl rfl (size_recs HZN.out) (by rw [Rec.cs_size HZN.out]; rfl) (all_oneCell_toArray (Rec.cs_one _)) X9 HX9.out ?_ | refine wpList_load_g rfl 27 _ rfl YA.heap.size 0 rfl Z.cs _ (range_rc E9.out) Tryd.underlying27 rfl (by rw [Rec.cs_len HZN.out]; exact Tryd.size27) ?_ | fail)
        refine HBW.out.mono ?_
        rintro _ X10 ⟨v10, rfl, hc10, hp10⟩
        rcases hp10 with ⟨q, _⟩ | ⟨_, ho10⟩
        · cases q
        obtain ⟨a10, c10, rfl, hr10⟩ := Ri.own ho10 K9.out.row.fits
        have K10 := hid (K9.out.later hc10)
        have ht1 := hr10.text X10 (Below.refl _ _)
        have ht2 := K10.out.row.text X10 (Below.refl _ _)
        have HAV := hid (alive_word X10)
        clear hc10 ho10 hr10 HBW
        rw [show e130 true = 0 from rfl]
        generalize strOfNums ZS = SS at *
        generalize ZS.length = LL at *
        go_wp2_with fail
        refine HAV.out.mono ?_
        rintro _ X11 ⟨rfl, hc11⟩
        have HB11 := hid (Bn K10.out.bel hc11)
        clear hc11 HAV
        go_wp2
        go_ret
        exact ⟨rfl, HB11.out⟩
    · cases q
  | true =>
    have HMT := hid hm
    have HWL : Hid ((wrB R).length ≤ 100000) := wr_len K0.out.rv hm HPS.out
    have HW8 : Hid (∀ j, (Lit.int .u8 ((wrB R).getD j 0)).wf = true) := get_u8 (wr_mem K0.out.rv hm)
    have HPB := hid (par_back K0.out.rv hm)
    rw [hm] at HBY0
    clear hm
    refine HBY0.out.mono ?_
    rintro _ X1 ⟨v1, rfl, hc1, hp1⟩
    have K1 := hid (K0.out.later hc1)
    rcases hp1 with ⟨q, _⟩ | ⟨_, ho1⟩
    · cases q
    obtain ⟨a1, c1, rfl, hr1⟩ := Ri.own ho1 HW8.out
    have HPW := hid (parse_word a1 c1 (wrB R) X1 hr1 (by have := HWL.out; omega))
    clear hc1 HBY0 ho1 hr1
    rw [show e130 true = 0 from rfl]
    generalize hLW : (wrB R).length = LW at *
    go_wp2_with fail
    refine HPW.out.mono ?_
    rintro _ Y2 ⟨Q, e2, rfl, hb2, hp2⟩
    have hq : ∃ qa qc, Q = { R with a := qa, cap := qc } ∧ e2 = 0 ∧ Rv Y2 Q := by
      rcases hp2 with ⟨n1, _, _⟩ | ⟨q, qa, qc, q1, q2, q3, _, q5, _⟩
      · rw [HPB.out] at n1; cases n1
      · rw [HPB.out] at q1
        injection q1 with q1
        refine ⟨qa, qc, ?_, q3, q5⟩
        rw [q2, ← q1]
    obtain ⟨qa, qc, hQ, rfl, hrvq⟩ := hq
    have HQL := hid hrvq.len
    have HSB : Hid (sameB Q R = true) := by show _ = _; rw [hQ]; exact same_self R qa qc
    have hbb := bel_alc Y2 (.cells Q.cs.toArray 27)
    have K2 := hid (K1.out.later (Bn hb2 hbb))
    have E2 := hid (heap_alc Y2 (.cells Q.cs.toArray 27))
    have HRQ := hid (hrvq.later hbb)
    obtain ⟨X2, hX2⟩ : ∃ X, X = Y2.alloc (.cells Q.cs.toArray 27) := ⟨_, rfl⟩
    have HX2 := hid hX2
    rw [← hX2] at K2 E2 HRQ
    have HSW := hid (dsame_word Q R X2 HRQ.out K2.out.rv)
    rw [HSB.out] at HSW
    clear hb2 hbb hX2 hp2 hQ hrvq HPW
    go_wp2_with (first | refine wpList_alloc_at rfl 27 rfl (some 7) rfl _ Tryd.zero27 Y2.heap.size rfl ?_ | refine wpList_store_as rfl 27 _ _ rfl rfl Y2 recZ.cs.toArray Q.cs.toArray rfl rfl rfl (size_recs HQL.out) (by rw [Rec.cs_size HQL.out]; rfl) (all_oneCell_toArray (Rec.cs_one _)) X2 HX2.out ?_ | refine wpList_load_g rfl 27 _ rfl Y2.heap.size 0 rfl Q.cs _ (range_rc E2.out) Tryd.underlying27 rfl (by rw [Rec.cs_len HQL.out]; exact Tryd.size27) ?_ | refine wpList_load_g rfl 27 _ rfl w.heap.size 0 rfl R.cs _ K2.out.box.range Tryd.underlying27 rfl (by rw [Rec.cs_len HRL.out]; exact Tryd.size27) ?_ | fail)
    refine HSW.out.mono ?_
    rintro _ X3 ⟨rfl, hc3⟩
    have K3 := hid (K2.out.later hc3)
    clear hc3 HSW
    go_wp2_with fail
    refine (parse_word ab cb ZS X3 K3.out.row HZL.out).mono ?_
    rintro _ YB ⟨Z, e9, rfl, hb9, hp9⟩
    have HZN : Hid (Z.prev.length = 32) := by
      rcases hp9 with ⟨_, rfl, _⟩ | ⟨_, _, _, _, rfl, _, hred, _, _⟩
      · rfl
      · exact hred.len
    have hbb := bel_alc YB (.cells Z.cs.toArray 27)
    have K9 := hid (K3.out.later (Bn hb9 hbb))
    have E9 := hid (heap_alc YB (.cells Z.cs.toArray 27))
    have HP9 := hid hp9
    obtain ⟨X9, hX9⟩ : ∃ X, X = YB.alloc (.cells Z.cs.toArray 27) := ⟨_, rfl⟩
    have HX9 := hid hX9
    rw [← hX9] at K9 E9
    have HYX : Hid (Below YB.heap.size YB X9) := by rw [hX9]; exact hbb
    clear hb9 hbb hX9 hp9
    rcases HP9.out with ⟨q1, q2, q3⟩ | ⟨z, za, zc, q1, q2, q3, q4, q5, _⟩
    · subst q2 q3
      have HSW := hid (dsame_word recZ recZ X9 (recZ_rv _) (recZ_rv _))
      rw [show sameB recZ recZ = true from decide_eq_true ⟨rfl, rfl, rfl, rfl, rfl, rfl, rfl⟩] at HSW
      clear q1 HP9
      go_wp2_with (first | refine wpList_alloc_at rfl 27 rfl (some 9) rfl _ Tryd.zero27 YB.heap.size rfl ?_ | refine wpList_store_as rfl 27 _ _ rfl rfl YB recZ.cs.toArray recZ.cs.toArray rfl rfl rfl (size_recs rfl) rfl (all_oneCell_toArray (Rec.cs_one _)) X9 HX9.out ?_ | refine wpList_load_g rfl 27 _ rfl YB.heap.size 0 rfl recZ.cs _ (range_rc E9.out) Tryd.underlying27 rfl (by rw [Rec.cs_len HZN.out]; exact Tryd.size27) ?_ | refine wpList_buildTo rfl 27 _ rfl (some 48) rfl recZ.cs.toArray Tryd.built27 ?_ | fail)
      refine HSW.out.mono ?_
      rintro _ X10 ⟨rfl, hc10⟩
      have HB10 := hid (Bn K9.out.bel hc10)
      have HAV := hid (alive_word X10)
      clear hc10 HSW
      go_wp2_with fail
      refine HAV.out.mono ?_
      rintro _ X11 ⟨rfl, hc11⟩
      have HB11 := hid (Bn HB10.out hc11)
      clear hc11 HAV
      go_wp2
      go_ret
      exact ⟨rfl, HB11.out⟩
    · subst q3
      obtain ⟨p1, p2, p3⟩ := par_one q1 HBYS.out
      have HRV9 : Hid (Rv X9 Z) := q5.later HYX.out
      have HMB : Hid (mayB Z = true) := by show _ = _; rw [q2]; exact p2
      have HWR : Hid (wrB Z = ZS) := by show _ = _; rw [q2]; exact p3
      have HBW := hid (bytes_word Z X9 HRV9.out)
      rw [HMB.out, HWR.out] at HBW
      clear q1 q2 q4 q5 p1 p2 p3 HP9
      go_wp2_with (first | refine wpList_alloc_at rfl 27 rfl (some 9) rfl _ Tryd.zero27 YB.heap.size rfl ?_ | refine wpList_store_as rfl 27 _ _ rfl rfl YB recZ.cs.toArray Z.cs.toArray rfl rfl rfl (size_recs HZN.out) (by rw [Rec.cs_size HZN.out]; rfl) (all_oneCell_toArray (Rec.cs_one _)) X9 HX9.out ?_ | refine wpList_load_g rfl 27 _ rfl YB.heap.size 0 rfl Z.cs _ (range_rc E9.out) Tryd.underlying27 rfl (by rw [Rec.cs_len HZN.out]; exact Tryd.size27) ?_ | fail)
      refine HBW.out.mono ?_
      rintro _ X10 ⟨v10, rfl, hc10, hp10⟩
      rcases hp10 with ⟨q, _⟩ | ⟨_, ho10⟩
      · cases q
      obtain ⟨a10, c10, rfl, hr10⟩ := Ri.own ho10 K9.out.row.fits
      have K10 := hid (K9.out.later hc10)
      have ht1 := hr10.text X10 (Below.refl _ _)
      have ht2 := K10.out.row.text X10 (Below.refl _ _)
      have HAV := hid (alive_word X10)
      clear hc10 ho10 hr10 HBW
      rw [show e130 true = 0 from rfl]
      generalize strOfNums ZS = SS at *
      generalize ZS.length = LL at *
      go_wp2_with fail
      refine HAV.out.mono ?_
      rintro _ X11 ⟨rfl, hc11⟩
      have HB11 := hid (Bn K10.out.bel hc11)
      clear hc11 HAV
      go_wp2
      go_ret
      exact ⟨rfl, HB11.out⟩
set_option maxHeartbeats 16000000 in
set_option maxRecDepth 100000 in
theorem walk_long (r : Rec) (ab : Option Addr) (cb : Nat) (zs : List Int) (w : World) (hr : Rv w r) (hz : Ri w .u8 ab cb zs) (h3 : 3000 < zs.length) :
    Calls Tryd.prog 6 #[.agg r.cs.toArray, .slice ab zs.length cb] w fun e w' => e = .returned (.bool true) ∧ Below w.heap.size w w' := by
  have b1 := bel_alc w (.cells r.cs.toArray 27)
  have x1 := Bx.mk' w r hr.len
  have HXA := hid x1.range
  obtain ⟨W0, hW0⟩ : ∃ W0, W0 = w.alloc (.cells r.cs.toArray 27) := ⟨_, rfl⟩
  rw [← hW0] at b1 x1
  have HX1 := hid x1
  have HB1 := hid b1
  have HV := hid (hr.later b1)
  have HR := hid hr
  have HZ := hid hz
  have hroom := hz.room
  have hmost := hz.most
  unfold maxLen at hmost
  have HCW := hid (cut_word r W0 HV.out)
  have HPS := hid (cut_ps r)
  have HL0 := hid hr.len
  obtain ⟨LZ, hLZ⟩ : ∃ n, n = zs.length := ⟨_, rfl⟩
  have HLZ := hid hLZ
  rw [← hLZ] at hroom h3 ⊢
  clear b1 x1 hr hz hLZ
  have h3i : ((3000 : Int) < (LZ : Int)) := by omega
  go_enter Tryd.func6, Tryd.ntmps6
  go_wp2_with (first | refine wpList_load_g rfl 27 _ rfl w.heap.size 0 rfl r.cs _ HXA.out Tryd.underlying27 rfl (by rw [Rec.cs_len HL0.out]; exact Tryd.size27) ?_ | fail)
  rw [← hW0]
  refine HCW.out.mono ?_
  rintro _ V1 ⟨rfl, hb2⟩
  have HRL : Hid ((cutR r).prev.length = 32) := HL0.out
  have HO := hid (HX1.out.later hb2).blk
  have HBX := hid (below_setRow (Bn HB1.out hb2) (Nat.le_refl _) (cutR r).cs.toArray)
  have HVR := hid (cut_rv (HR.out.later HBX.out))
  have HXR : Hid (Bx (V1.setRow w.heap.size (cutR r).cs.toArray) w.heap.size (cutR r)) := ⟨setRow_heap _ _ _ _ _ _ HO.out, HRL.out⟩
  have HZS := hid ((HZ.out.later HBX.out).take 3000)
  clear hb2 hW0 HCW HB1 HX1 HV
  generalize cutR r = R at *
  obtain ⟨X, hX⟩ : ∃ X, X = V1.setRow w.heap.size R.cs.toArray := ⟨_, rfl⟩
  rw [← hX] at HBX HVR HXR HZS
  have K0 : Hid (Bk w X R ab cb (zs.take 3000)) := ⟨HXR.out, HVR.out, HZS.out, HBX.out⟩
  have HXX := hid HXR.out.range
  clear HXR HVR HZS HBX HR
  go_wp2_with (first | refine wpList_store_rowTo rfl 27 _ _ rfl rfl w.heap.size R.cs.toArray rfl rfl 27 _ HO.out (size_recs HRL.out) (by rw [Rec.cs_size HRL.out, Rec.cs_size HL0.out]) (all_oneCell_toArray (Rec.cs_one _)) ?_ | refine wpList_load_g rfl 27 _ rfl w.heap.size 0 rfl R.cs _ (by rw [← hX]; exact HXX.out) Tryd.underlying27 rfl (by rw [Rec.cs_len HRL.out]; exact Tryd.size27) ?_ | fail)
  rw [← hX]
  have HLT : Hid ((zs.take 3000).length = 3000) := by show _ = _; rw [List.length_take, ← HLZ.out]; omega
  have HZL : Hid ((zs.take 3000).length ≤ 262144) := by have := HLT.out; show _ ≤ _; omega
  have HBYS : Hid (By (zs.take 3000)) := all_u8 K0.out.row.fits
  rw [← HLT.out]
  clear hX HLT HXX HO h3 h3i hroom hmost HLZ HZ
  generalize zs.take 3000 = ZS at *
  have HBY0 := hid (bytes_word R X K0.out.rv)
  cases hm : mayB R with
  | false =>
    rw [hm] at HBY0
    clear hm
    refine HBY0.out.mono ?_
    rintro _ X1 ⟨v1, rfl, hc1, hp1⟩
    have K1 := hid (K0.out.later hc1)
    rcases hp1 with ⟨_, rfl⟩ | ⟨q, _⟩
    · clear hc1 HBY0
      rw [show e130 false = 130 from rfl]
      go_wp2_with fail
      refine (parse_word ab cb ZS X1 K1.out.row HZL.out).mono ?_
      rintro _ YA ⟨Z, e9, rfl, hb9, hp9⟩
      have HZN : Hid (Z.prev.length = 32) := by
        rcases hp9 with ⟨_, rfl, _⟩ | ⟨_, _, _, _, rfl, _, hred, _, _⟩
        · rfl
        · exact hred.len
      have hbb := bel_alc YA (.cells Z.cs.toArray 27)
      have K9 := hid (K1.out.later (Bn hb9 hbb))
      have E9 := hid (heap_alc YA (.cells Z.cs.toArray 27))
      have HP9 := hid hp9
      obtain ⟨X9, hX9⟩ : ∃ X, X = YA.alloc (.cells Z.cs.toArray 27) := ⟨_, rfl⟩
      have HX9 := hid hX9
      rw [← hX9] at K9 E9
      have HYX : Hid (Below YA.heap.size YA X9) := by rw [hX9]; exact hbb
      clear hb9 hbb hX9 hp9
      rcases HP9.out with ⟨q1, q2, q3⟩ | ⟨z, za, zc, q1, q2, q3, q4, q5, _⟩
      · subst q2 q3
        have HSW := hid (dsame_word recZ recZ X9 (recZ_rv _) (recZ_rv _))
        rw [show sameB recZ recZ = true from decide_eq_true ⟨rfl, rfl, rfl, rfl, rfl, rfl, rfl⟩] at HSW
        clear q1 HP9
        go_wp2_with (first | refine wpList_alloc_at rfl 27 rfl (some 9) rfl _ Tryd.zero27 YA.heap.size rfl ?_ | refine wpList_store_as rfl 27 _ _ rfl rfl YA recZ.cs.toArray recZ.cs.toArray rfl rfl rfl (size_recs rfl) rfl (all_oneCell_toArray (Rec.cs_one _)) X9 HX9.out ?_ | refine wpList_load_g rfl 27 _ rfl YA.heap.size 0 rfl recZ.cs _ (range_rc E9.out) Tryd.underlying27 rfl (by rw [Rec.cs_len HZN.out]; exact Tryd.size27) ?_ | refine wpList_buildTo rfl 27 _ rfl (some 48) rfl recZ.cs.toArray Tryd.built27 ?_ | fail)
        refine HSW.out.mono ?_
        rintro _ X10 ⟨rfl, hc10⟩
        have HB10 := hid (Bn K9.out.bel hc10)
        have HAV := hid (alive_word X10)
        clear hc10 HSW
        go_wp2_with fail
        refine HAV.out.mono ?_
        rintro _ X11 ⟨rfl, hc11⟩
        have HB11 := hid (Bn HB10.out hc11)
        clear hc11 HAV
        go_wp2
        go_ret
        exact ⟨rfl, HB11.out⟩
      · subst q3
        obtain ⟨p1, p2, p3⟩ := par_one q1 HBYS.out
        have HRV9 : Hid (Rv X9 Z) := q5.later HYX.out
        have HMB : Hid (mayB Z = true) := by show _ = _; rw [q2]; exact p2
        have HWR : Hid (wrB Z = ZS) := by show _ = _; rw [q2]; exact p3
        have HBW := hid (bytes_word Z X9 HRV9.out)
        rw [HMB.out, HWR.out] at HBW
        clear q1 q2 q4 q5 p1 p2 p3 HP9
        go_wp2_with (first | refine wpList_alloc_at rfl 27 rfl (some 9) rfl _ Tryd.zero27 YA.heap.size rfl ?_ | refine wpList_store_as rfl 27 _ _ rfl rfl YA recZ.cs.toArray Z.cs.toArray rfl rfl rfl (size_recs HZN.out) (by rw [Rec.cs_size HZN.out]; rfl) (all_oneCell_toArray (Rec.cs_one _)) X9 HX9.out ?_ | refine wpList_load_g rfl 27 _ rfl YA.heap.size 0 rfl Z.cs _ (range_rc E9.out) Tryd.underlying27 rfl (by rw [Rec.cs_len HZN.out]; exact Tryd.size27) ?_ | fail)
        refine HBW.out.mono ?_
        rintro _ X10 ⟨v10, rfl, hc10, hp10⟩
        rcases hp10 with ⟨q, _⟩ | ⟨_, ho10⟩
        · cases q
        obtain ⟨a10, c10, rfl, hr10⟩ := Ri.own ho10 K9.out.row.fits
        have K10 := hid (K9.out.later hc10)
        have ht1 := hr10.text X10 (Below.refl _ _)
        have ht2 := K10.out.row.text X10 (Below.refl _ _)
        have HAV := hid (alive_word X10)
        clear hc10 ho10 hr10 HBW
        rw [show e130 true = 0 from rfl]
        generalize strOfNums ZS = SS at *
        generalize ZS.length = LL at *
        go_wp2_with fail
        refine HAV.out.mono ?_
        rintro _ X11 ⟨rfl, hc11⟩
        have HB11 := hid (Bn K10.out.bel hc11)
        clear hc11 HAV
        go_wp2
        go_ret
        exact ⟨rfl, HB11.out⟩
    · cases q
  | true =>
    have HMT := hid hm
    have HWL : Hid ((wrB R).length ≤ 100000) := wr_len K0.out.rv hm HPS.out
    have HW8 : Hid (∀ j, (Lit.int .u8 ((wrB R).getD j 0)).wf = true) := get_u8 (wr_mem K0.out.rv hm)
    have HPB := hid (par_back K0.out.rv hm)
    rw [hm] at HBY0
    clear hm
    refine HBY0.out.mono ?_
    rintro _ X1 ⟨v1, rfl, hc1, hp1⟩
    have K1 := hid (K0.out.later hc1)
    rcases hp1 with ⟨q, _⟩ | ⟨_, ho1⟩
    · cases q
    obtain ⟨a1, c1, rfl, hr1⟩ := Ri.own ho1 HW8.out
    have HPW := hid (parse_word a1 c1 (wrB R) X1 hr1 (by have := HWL.out; omega))
    clear hc1 HBY0 ho1 hr1
    rw [show e130 true = 0 from rfl]
    generalize hLW : (wrB R).length = LW at *
    go_wp2_with fail
    refine HPW.out.mono ?_
    rintro _ Y2 ⟨Q, e2, rfl, hb2, hp2⟩
    have hq : ∃ qa qc, Q = { R with a := qa, cap := qc } ∧ e2 = 0 ∧ Rv Y2 Q := by
      rcases hp2 with ⟨n1, _, _⟩ | ⟨q, qa, qc, q1, q2, q3, _, q5, _⟩
      · rw [HPB.out] at n1; cases n1
      · rw [HPB.out] at q1
        injection q1 with q1
        refine ⟨qa, qc, ?_, q3, q5⟩
        rw [q2, ← q1]
    obtain ⟨qa, qc, hQ, rfl, hrvq⟩ := hq
    have HQL := hid hrvq.len
    have HSB : Hid (sameB Q R = true) := by show _ = _; rw [hQ]; exact same_self R qa qc
    have hbb := bel_alc Y2 (.cells Q.cs.toArray 27)
    have K2 := hid (K1.out.later (Bn hb2 hbb))
    have E2 := hid (heap_alc Y2 (.cells Q.cs.toArray 27))
    have HRQ := hid (hrvq.later hbb)
    obtain ⟨X2, hX2⟩ : ∃ X, X = Y2.alloc (.cells Q.cs.toArray 27) := ⟨_, rfl⟩
    have HX2 := hid hX2
    rw [← hX2] at K2 E2 HRQ
    have HSW := hid (dsame_word Q R X2 HRQ.out K2.out.rv)
    rw [HSB.out] at HSW
    clear hb2 hbb hX2 hp2 hQ hrvq HPW
    go_wp2_with (first | refine wpList_alloc_at rfl 27 rfl (some 7) rfl _ Tryd.zero27 Y2.heap.size rfl ?_ | refine wpList_store_as rfl 27 _ _ rfl rfl Y2 recZ.cs.toArray Q.cs.toArray rfl rfl rfl (size_recs HQL.out) (by rw [Rec.cs_size HQL.out]; rfl) (all_oneCell_toArray (Rec.cs_one _)) X2 HX2.out ?_ | refine wpList_load_g rfl 27 _ rfl Y2.heap.size 0 rfl Q.cs _ (range_rc E2.out) Tryd.underlying27 rfl (by rw [Rec.cs_len HQL.out]; exact Tryd.size27) ?_ | refine wpList_load_g rfl 27 _ rfl w.heap.size 0 rfl R.cs _ K2.out.box.range Tryd.underlying27 rfl (by rw [Rec.cs_len HRL.out]; exact Tryd.size27) ?_ | fail)
    refine HSW.out.mono ?_
    rintro _ X3 ⟨rfl, hc3⟩
    have K3 := hid (K2.out.later hc3)
    clear hc3 HSW
    go_wp2_with fail
    refine (parse_word ab cb ZS X3 K3.out.row HZL.out).mono ?_
    rintro _ YB ⟨Z, e9, rfl, hb9, hp9⟩
    have HZN : Hid (Z.prev.length = 32) := by
      rcases hp9 with ⟨_, rfl, _⟩ | ⟨_, _, _, _, rfl, _, hred, _, _⟩
      · rfl
      · exact hred.len
    have hbb := bel_alc YB (.cells Z.cs.toArray 27)
    have K9 := hid (K3.out.later (Bn hb9 hbb))
    have E9 := hid (heap_alc YB (.cells Z.cs.toArray 27))
    have HP9 := hid hp9
    obtain ⟨X9, hX9⟩ : ∃ X, X = YB.alloc (.cells Z.cs.toArray 27) := ⟨_, rfl⟩
    have HX9 := hid hX9
    rw [← hX9] at K9 E9
    have HYX : Hid (Below YB.heap.size YB X9) := by rw [hX9]; exact hbb
    clear hb9 hbb hX9 hp9
    rcases HP9.out with ⟨q1, q2, q3⟩ | ⟨z, za, zc, q1, q2, q3, q4, q5, _⟩
    · subst q2 q3
      have HSW := hid (dsame_word recZ recZ X9 (recZ_rv _) (recZ_rv _))
      rw [show sameB recZ recZ = true from decide_eq_true ⟨rfl, rfl, rfl, rfl, rfl, rfl, rfl⟩] at HSW
      clear q1 HP9
      go_wp2_with (first | refine wpList_alloc_at rfl 27 rfl (some 9) rfl _ Tryd.zero27 YB.heap.size rfl ?_ | refine wpList_store_as rfl 27 _ _ rfl rfl YB recZ.cs.toArray recZ.cs.toArray rfl rfl rfl (size_recs rfl) rfl (all_oneCell_toArray (Rec.cs_one _)) X9 HX9.out ?_ | refine wpList_load_g rfl 27 _ rfl YB.heap.size 0 rfl recZ.cs _ (range_rc E9.out) Tryd.underlying27 rfl (by rw [Rec.cs_len HZN.out]; exact Tryd.size27) ?_ | refine wpList_buildTo rfl 27 _ rfl (some 48) rfl recZ.cs.toArray Tryd.built27 ?_ | fail)
      refine HSW.out.mono ?_
      rintro _ X10 ⟨rfl, hc10⟩
      have HB10 := hid (Bn K9.out.bel hc10)
      have HAV := hid (alive_word X10)
      clear hc10 HSW
      go_wp2_with fail
      refine HAV.out.mono ?_
      rintro _ X11 ⟨rfl, hc11⟩
      have HB11 := hid (Bn HB10.out hc11)
      clear hc11 HAV
      go_wp2
      go_ret
      exact ⟨rfl, HB11.out⟩
    · subst q3
      obtain ⟨p1, p2, p3⟩ := par_one q1 HBYS.out
      have HRV9 : Hid (Rv X9 Z) := q5.later HYX.out
      have HMB : Hid (mayB Z = true) := by show _ = _; rw [q2]; exact p2
      have HWR : Hid (wrB Z = ZS) := by show _ = _; rw [q2]; exact p3
      have HBW := hid (bytes_word Z X9 HRV9.out)
      rw [HMB.out, HWR.out] at HBW
      clear q1 q2 q4 q5 p1 p2 p3 HP9
      go_wp2_with (first | refine wpList_alloc_at rfl 27 rfl (some 9) rfl _ Tryd.zero27 YB.heap.size rfl ?_ | refine wpList_store_as rfl 27 _ _ rfl rfl YB recZ.cs.toArray Z.cs.toArray rfl rfl rfl (size_recs HZN.out) (by rw [Rec.cs_size HZN.out]; rfl) (all_oneCell_toArray (Rec.cs_one _)) X9 HX9.out ?_ | refine wpList_load_g rfl 27 _ rfl YB.heap.size 0 rfl Z.cs _ (range_rc E9.out) Tryd.underlying27 rfl (by rw [Rec.cs_len HZN.out]; exact Tryd.size27) ?_ | fail)
      refine HBW.out.mono ?_
      rintro _ X10 ⟨v10, rfl, hc10, hp10⟩
      rcases hp10 with ⟨q, _⟩ | ⟨_, ho10⟩
      · cases q
      obtain ⟨a10, c10, rfl, hr10⟩ := Ri.own ho10 K9.out.row.fits
      have K10 := hid (K9.out.later hc10)
      have ht1 := hr10.text X10 (Below.refl _ _)
      have ht2 := K10.out.row.text X10 (Below.refl _ _)
      have HAV := hid (alive_word X10)
      clear hc10 ho10 hr10 HBW
      rw [show e130 true = 0 from rfl]
      generalize strOfNums ZS = SS at *
      generalize ZS.length = LL at *
      go_wp2_with fail
      refine HAV.out.mono ?_
      rintro _ X11 ⟨rfl, hc11⟩
      have HB11 := hid (Bn K10.out.bel hc11)
      clear hc11 HAV
      go_wp2
      go_ret
      exact ⟨rfl, HB11.out⟩
theorem walk (r : Rec) (ab : Option Addr) (cb : Nat) (zs : List Int) (w : World) (_ : Sh.Laid w) (hr : Rv w r) (hz : Ri w .u8 ab cb zs) :
    Calls Tryd.prog 6 #[.agg r.cs.toArray, .slice ab zs.length cb] w fun e w' => e = .returned (.bool true) ∧ Below w.heap.size w w' := by
  by_cases h : 3000 < zs.length
  · exact walk_long r ab cb zs w hr hz h
  · exact walk_short r ab cb zs w hr hz h
set_option maxRecDepth 100000 in
theorem lifted (os : Os) (started : os.Started) (H : Type) (enc : TypeId × Value → H) :
    ReturnsInHanded {} Tryd.checked os 6 .any (fun w args => (Rows.recordBackSpec.pre enc Tryd.prog Tryd.f6 [] false w args ∧ laidMetH Tryd.prog laidL w) ∧ sizedMet enc Tryd.prog Tryd.f6 (OpenSpec.ofChange Rows.recordBackSpec) false w args)
      (Rows.recordBackSpec.post enc Tryd.prog Tryd.f6 false true false false) := by
  refine returnsInHanded_of_change_and (C := Tryd.checked) (X := fun w _ => laidMetH Tryd.prog laidL w) (fun _ _ _ hh h => h.of_heap hh) own started (by kernel_rfl) Tryd.func6
    (ChangeSpec.witness_shaped (enc := enc) (C := Tryd.checked) (os := os) (X := fun w _ => laidMetH Tryd.prog laidL w) false (World.doorLaid Tryd.prog 400 os) #[.agg #[.int .i64 0, .int .i64 0, .int .u8 0, .int .u8 0, .int .u8 0, .int .u8 0, .int .u8 0, .int .u8 0, .int .u8 0, .int .u8 0, .int .u8 0, .int .u8 0, .int .u8 0, .int .u8 0, .int .u8 0, .int .u8 0, .int .u8 0, .int .u8 0, .int .u8 0, .int .u8 0, .int .u8 0, .int .u8 0, .int .u8 0, .int .u8 0, .int .u8 0, .int .u8 0, .int .u8 0, .int .u8 0, .int .u8 0, .int .u8 0, .int .u8 0, .int .u8 0, .int .u8 0, .int .u8 0, .int .i64 0, .int .i64 0, .string ⟨#[]⟩, .slice none 0 0], .slice none 0 0] 8 rfl (World.shaped_of_RefB (by kernel_rfl) (by kernel_rfl)) (by kernel_rfl) (by kernel_rfl) (by kernel_rfl) (door_met os _)) ?_
  intro W base args ds gs before hval0 hW _ _ hL _
  have hval : ∀ (j : Nat) t v, Tryd.f6.params[j]? = some t → args[j]? = some v → Value.okWide Tryd.prog W .any base t v := hval0
  have hW' := hW
  obtain ⟨p, q, hA0, hV, rfl, _, _⟩ := hW
  have hA : DataW.TrodAll enc Tryd.prog W 0 (fun _ => true) true Tryd.f6.params.toList args.toList ds p := hA0
  rw [Tryd.params6] at hA hval
  obtain ⟨v0, vs0, d0, ds0, p0, q0, hargs, rfl, rfl, h0, r0⟩ := trodAll_cons hA
  obtain ⟨v1, vs1, d1, ds1, p1, q1, rfl, rfl, rfl, h1, r1⟩ := trodAll_cons r0
  obtain ⟨rfl, rfl, rfl⟩ := trodAll_nil r1
  obtain rfl : args = #[v0, v1] := by cases args; simp_all
  obtain ⟨rfl, rfl⟩ := trodVars_none hV
  have hlaid := of_laid hL
  clear hA0
  simp only [List.append_nil] at hW'
  have hlt0 : ∀ x ∈ p0, x.block < W.heap.size := fun x hx => hW'.lt x (by simp [hx])
  have hk0 := h0
  obtain ⟨x0, rfl, hr0⟩ := open_rec (hval 0 27 v0 rfl rfl) h0 hlt0
  have hlt1 : ∀ x ∈ p1, x.block < W.heap.size := fun x hx => hW'.lt x (by simp [hx])
  have hk1 := h1
  obtain ⟨a1, cap1, l1, rfl, hr1⟩ := open_ri Tryd.underlying29 Tryd.underlying5 Tryd.cells5 (hval 1 29 v1 rfl rfl) h1 hlt1
  clear hval0
  refine (walk x0 a1 cap1 l1 W hlaid hr0 hr1).mono fun e W' ⟨he, hb⟩ => ?_
  subst he
  exact ⟨_, rfl, _, _, _, [] ++ [], _, [], hW', trodAll_cons_mk (shut_bool Tryd.underlying4 _) trodAll_mk0, (trodAll_cons_mk (Below.trod Tryd.laidOut (by kernel_rfl) (of_decide_eq_true (by kernel_rfl)) hk0 hb hlt0) (trodAll_cons_mk (Below.trod Tryd.laidOut (by kernel_rfl) (of_decide_eq_true (by kernel_rfl)) hk1 hb hlt1) trodAll_mk0)), rfl, hb.frame _, fun h => by cases h⟩

theorem over : Rows.recordBackRow.holds Tryd.pinned (OpenSpec.ofChange Rows.recordBackSpec) :=
  OpenClaim.holds_of_wide 6 Tryd.f6 rfl rfl rfl rfl rfl rfl rfl ⟨rfl, rfl, rfl, rfl, rfl⟩ rfl rfl rfl rfl rfl (by kernel_rfl) Tryd.func6 (by kernel_rfl)
    (of_decide_eq_true (by kernel_rfl)) (by unfold Func.isWrapper; first | (rw [if_pos (by decide +kernel)]; kernel_rfl) | (rw [if_neg (by decide +kernel)]; exact ⟨rfl, rfl⟩))
    (fun os started H enc _ => lifted os started H enc)

theorem card : Rows.RecordBackCardSaid :=
  Claim7.holds_tied_plain_at .later [] [.data, .data] true (true, "875b16e5fcb2ccc823f28e185639766048f68080d49968449cd66f96e9b9ab4d") true
    over (fun _ h => by cases h) (by kernel_rfl) (fun _ h => by cases h) recordBack_row_tie rfl ⟨rfl, rfl⟩ (by kernel_rfl) rfl
    (fun f fn hf hfn => by
      obtain rfl : f = 6 := Option.some.inj ((show Tryd.prog.funcNamed "saltern/salternlaw13.RecordBack" = some 6 by kernel_rfl).symm.trans hf) |>.symm
      obtain rfl : fn = Tryd.f6 := (Option.some.inj (Tryd.func6.symm.trans hfn)).symm
      exact ⟨by kernel_rfl, fun j t ht => by
        rw [Tryd.params6] at ht
        have hm : t ∈ [27, 29] := by simpa using Array.mem_of_getElem? ht
        have hall : ([27, 29].all fun u => !Tryd.prog.wantsStandIn u) = true := by kernel_rfl
        exact (show Tryd.prog.wantsStandIn t = false by simpa using List.all_eq_true.1 hall t hm)⟩)
    (by kernel_rfl)

end Go.Proofs.YtpbaacplgohniaaDoor.recordBack
namespace Go.Proofs.YtpbaacplgohniaaDoor
theorem recordBack_holds : Rows.RecordBackCardSaid := recordBack.card
#print axioms recordBack_holds
end Go.Proofs.YtpbaacplgohniaaDoor
