/-
  The row of a code: the contract of row.
-/
import Derived.Test.YtelnefngkdfcoaaGreatPart31
import Derived.StillTailTactics
import Derived.Test.YtelnefngkdfcoaaGreatPart30
import Derived.Test.YtelnefngkdfcoaaGreatPart09
import Derived.Test.YtelnefngkdfcoaaGreatPart05
import Derived.Defers
import Derived.Recover
import Derived.Laws.Pointers
import Derived.Test.YtelnefngkdfcoaaGreatPart29
namespace Go.Proofs.YtelnefngkdfcoaaGreat
open Go.RowKit Hf

theorem unpO_rng {zs : List Int} {l : List Tkz} (h : unpO zs = some l) : (∀ t ∈ l, Tin t) ∧ l.length ≤ 8 * zs.length := by
  unfold unpO at h
  cases ht : toksR zs with
  | none => rw [ht] at h; cases h
  | some ls =>
    obtain ⟨m, s⟩ := ls
    rw [ht] at h
    dsimp only at h
    split at h
    · have := Option.some.inj h
      subst this
      exact toksR_rng ht
    · cases h
def rowO (zs : List Int) : Option (List Int) :=
  match headO zs with
  | none => none
  | some ((n, p), rs) => if p = true then
      match unpO rs with
      | none => none
      | some l => if (bytesO l).2.2 = 0 ∧ (bytesO l).1.length = n then some (bytesO l).1 else none
    else if rs.length = n then some rs else none
def RowPost (w0 : World) (r : Option (List Int)) (e : Ending) (w' : World) : Prop :=
  Below w0.heap.size w0 w' ∧ match r with
  | none => e = .panicked faultC
  | some bs => ∃ a c, e = .returned (.slice a bs.length c) ∧ Ri w' .u8 a c bs
theorem headO_short {zs rs : List Int} {n : Nat} {p : Bool} (h : headO zs = some ((n, p), rs)) : rs.length ≤ zs.length := by
  cases zs with
  | nil => simp [headO] at h
  | cons z zs1 =>
    simp only [headO] at h
    split at h
    · cases hn : numO 65536 zs1 with
      | none => rw [hn] at h; cases h
      | some nr =>
        obtain ⟨m, r⟩ := nr
        rw [hn] at h
        simp only [Option.some.injEq, Prod.mk.injEq] at h
        have := (numO_rng hn).2
        rw [← h.2, List.length_cons]
        omega
    · cases h
set_option maxHeartbeats 3200000 in
set_option maxRecDepth 100000 in
theorem row_word (w0 w : World) (g : Nat) (a : Option Addr) (cap : Nat) (zs : List Int) (h : Rr w0 w g 80 [] a cap zs) (hn : zs.length ≤ 4200) :
    Calls Tryz.prog 49 #[.pointer (some ⟨g, 0, none⟩)] w (RowPost w0 (rowO zs)) := by
  have HH := hid (head_word w0 w g 80 [] a cap zs h)
  have HN := hid hn
  have HGL := hid h.lt
  have HGE := hid h.ge
  obtain ⟨R, hR⟩ : ∃ R, R = rowO zs := ⟨_, rfl⟩
  rw [← hR]
  unfold rowO at hR
  have HR := hid hR
  clear hR h hn
  go_enter Tryz.func49, Tryz.ntmps49
  go_wp2_with fail
  refine HH.out.mono ?_
  intro e w1 he
  unfold HedPost at he
  cases hh : headO zs with
  | none =>
    rw [hh] at he HR
    obtain ⟨rfl, _, hb⟩ := he
    have hR := HR.out
    dsimp only at hR
    subst hR
    exact ⟨rfl, hb, rfl⟩
  | some x =>
    obtain ⟨⟨n, p⟩, rs⟩ := x
    have HSH := hid (headO_short hh)
    rw [hh] at he HR
    obtain ⟨rfl, ⟨a1, c1, hR1⟩, hF1⟩ := he
    dsimp only at HR
    have e1 := heap_new w1 (.cells #[.int .i64 0, .bool false] 94)
    have HG1 := hid hR1.lt
    have hR2 := hR1.keep (Below.heap_alloc w1 (.cells #[.int .i64 0, .bool false] 94) g hR1.lt) (hR1.bel.alloc hR1.bel.size _)
    have hR3 := hR2.keep (setRow_other _ w1.heap.size g #[.int .i64 (n : Int), .bool p] (by have := HG1.out; omega)) (below_setRow hR2.bel hR1.bel.size _)
    have e3 := setRow_heap _ w1.heap.size _ #[.int .i64 (n : Int), .bool p] _ _ e1
    have q79 : (Tryz.prog.info? 94).map (·.size) = some (#[Value.int .i64 (n : Int), Value.bool p] : Array Value).size := by kernel_rfl
    have o79 : (#[Value.int .i64 (n : Int), Value.bool p] : Array Value).all (·.oneCell') = true := by simp [Value.oneCell']
    have HR3 := hid hR3
    have HE3 := hid e3
    clear hh hR1 hF1 hR2 hR3 e3 HH
    have k0 := Joins.cell_of_block HE3.out 0
    have k1 := Joins.cell_of_block HE3.out 1
    have kr := Joins.cell_of_block HR3.out.blk 0
    simp only [List.getElem?_toArray, List.getElem?_cons_zero, List.getElem?_cons_succ] at k0 k1 kr
    have HK := hid k0
    have HKR := hid kr
    cases p with
    | false =>
      rw [if_neg (by decide)] at HR
      clear k0 kr
      have hmo : Tryz.prog.follows .mixedOrders = true := by kernel_rfl
      go_wp2_with (refine wpList_store_rowTo rfl 94 _ _ rfl rfl w1.heap.size #[.int .i64 (n : Int), .bool false] rfl rfl 94 _ e1 q79 rfl o79 ?_)
      have k0 := HK.out
      have kr := HKR.out
      clear k1 e1 q79 o79
      have HBW := hid HR3.out.bel
      have HRI := hid (HR3.out.row.later HR3.out.bel)
      clear HE3 HK HKR HR3
      generalize (w1.alloc (.cells #[.int .i64 0, .bool false] 94)).setRow w1.heap.size #[.int .i64 (n : Int), .bool false] = W at *
      obtain ⟨rl, hrl⟩ : ∃ k, k = rs.length := ⟨_, rfl⟩
      have HRL := hid hrl
      rw [← hrl] at kr HR
      clear hrl
      go_still_tail 8, hmo
      change wpList _ _ _ _ _ W.drew
      have kd : W.drew.cell? ⟨g, 0, none⟩ = some (.slice a1 rl c1) := kr
      have HBD := hid HBW.out.drew
      have HRD : Hid (Ri W.drew .u8 a1 c1 rs) := HRI.out.later (Below.refl _ _).drew
      clear k0 kr HBW HRI
      generalize W.drew = V at *
      by_cases hln : rl = n
      · have hR := HR.out
        rw [if_pos hln] at hR
        subst hR
        subst hln
        clear HR
        cases a1 with
        | none =>
          have hr0 : rs = [] := by
            apply List.length_eq_zero_iff.1
            rcases Nat.eq_zero_or_pos rs.length with h | h
            · exact h
            · obtain ⟨_, _, h', _⟩ := HRD.out.cells h
              cases h'
          have HCL := hid (bclone_nil rl c1 V)
          go_wp2_with fail
          refine (need_yes V).mono ?_
          rintro _ w5 ⟨rfl, hw⟩
          obtain rfl := hw.symm
          clear hw
          go_wp2_with fail
          refine HCL.out.mono ?_
          rintro _ w5 ⟨rfl, hw⟩
          obtain rfl := hw.symm
          clear hw HCL
          go_wp2_with fail
          go_ret
          subst hr0
          exact ⟨HBD.out, none, 0, rfl, ri_none _ _ _ _ (by unfold maxLen; omega)⟩
        | some ad =>
          have HCL := hid (bclone_some ad c1 rs V HRD.out (by have := HSH.out; have := HN.out; omega))
          rw [← HRL.out] at HCL
          go_wp2_with fail
          refine (need_yes V).mono ?_
          rintro _ w5 ⟨rfl, hw⟩
          obtain rfl := hw.symm
          clear hw
          go_wp2_with fail
          refine HCL.out.mono ?_
          rintro _ w5 ⟨v, rfl, ho, hb⟩
          rw [HRL.out] at ho
          obtain ⟨a5, c5, rfl, hri⟩ := Ri.own ho HRD.out.fits
          have HB5 := hid (Bn HBD.out hb)
          have HRI5 := hid hri
          clear ho hb hri HCL
          rw [← HRL.out]
          go_wp2_with fail
          go_ret
          exact ⟨HB5.out, a5, c5, by rw [← HRL.out]; rfl, HRI5.out⟩
      · have hR := HR.out
        rw [if_neg hln] at hR
        subst hR
        clear HR
        have hln2 : ((rl : Int) == (n : Int)) = false := beq_eq_false_iff_ne.2 (by omega)
        have hln3 : (rl == n) = false := beq_eq_false_iff_ne.2 hln
        go_wp2_with fail
        refine (need_no V).mono ?_
        rintro _ w5 ⟨rfl, rfl⟩
        exact ⟨rfl, HBD.out, rfl⟩
    | true =>
      rw [if_pos rfl] at HR
      clear k0
      have HBW := hid HR3.out.bel
      have HUW := hid (unpack_word a1 c1 rs _ (HR3.out.row.later HR3.out.bel) (by have := HSH.out; have := HN.out; omega))
      go_wp2_with (refine wpList_store_rowTo rfl 94 _ _ rfl rfl w1.heap.size #[.int .i64 (n : Int), .bool true] rfl rfl 94 _ e1 q79 rfl o79 ?_)
      clear k1 kr e1 q79 o79 HKR HR3
      generalize (w1.alloc (.cells #[.int .i64 0, .bool false] 94)).setRow w1.heap.size #[.int .i64 (n : Int), .bool true] = W at *
      refine HUW.out.mono ?_
      rintro e w2 ⟨hb2, he⟩
      cases hu : unpO rs with
      | none =>
        rw [hu] at he HR
        subst he
        have hR := HR.out
        dsimp only at hR
        subst hR
        have HB := hid (Bn HBW.out hb2)
        clear hb2 hu HUW
        go_wp2_with fail
        refine (need_no w2).mono ?_
        rintro _ w3 ⟨rfl, rfl⟩
        exact ⟨rfl, HB.out, rfl⟩
      | some l =>
        rw [hu] at he HR
        obtain ⟨a2, c2, rfl, hrt⟩ := he
        dsimp only at HR
        obtain ⟨hin, hle⟩ := unpO_rng hu
        have HBY := hid (bytes_word a2 c2 l w2 hrt (by have := HSH.out; have := HN.out; omega))
        have H8 : Hid (Bytes8 (bytesO l).1) := bytF_fit l [] 0 (fun j => by simp; exact wf_mk_u8 (by omega) (by omega)) (fun t ht => wf_mk_u8 (hin t ht).2.2.2.2.1 (hin t ht).2.2.2.2.2)
        have HB2 := hid (Bn HBW.out hb2)
        have k2 := (hb2.cell (p := ⟨w1.heap.size, 0, none⟩) (by have := cell_lt HK.out; exact this)).trans HK.out
        have HK2 := hid k2
        have HLT := hid (cell_lt k2)
        clear hb2 hu HUW hrt hin hle k2 HK HE3 HBW
        generalize l.length = ll at *
        unfold BytPost at HBY
        generalize bytesO l = B at *
        obtain ⟨bs, bi, be⟩ := B
        dsimp only at HBY H8 HR
        go_wp2_with fail
        refine (need_yes w2).mono ?_
        rintro _ w3 ⟨rfl, hw⟩
        obtain rfl := hw.symm
        clear hw
        go_wp2_with fail
        refine HBY.out.mono ?_
        rintro _ w4 ⟨v, rfl, hob, hb4⟩
        obtain ⟨a4, c4, rfl, hri⟩ := Ri.own hob H8.out
        have k4 := (hb4.cell (p := ⟨w1.heap.size, 0, none⟩) HLT.out).trans HK2.out
        have HB4 := hid (Bn HB2.out hb4)
        have HRI := hid hri
        clear hob hb4 hri HBY HK2 HLT H8 HB2
        obtain ⟨bl, hbl⟩ : ∃ k, k = bs.length := ⟨_, rfl⟩
        have HBLn := hid hbl
        rw [← hbl] at HR ⊢
        clear hbl
        by_cases hbe : be = 0
        · subst hbe
          by_cases hln : bl = n
          · have hR := HR.out
            rw [if_pos ⟨rfl, hln⟩] at hR
            subst hR
            subst hln
            clear HR
            go_wp2_with fail
            refine (need_yes w4).mono ?_
            rintro _ w5 ⟨rfl, hw⟩
            obtain rfl := hw.symm
            clear hw
            go_wp2_with fail
            go_ret
            exact ⟨HB4.out, a4, c4, by rw [← HBLn.out]; rfl, HRI.out⟩
          · have hR := HR.out
            rw [if_neg (fun q => hln q.2)] at hR
            subst hR
            clear HR
            have hln2 : ((bl : Int) == (n : Int)) = false := beq_eq_false_iff_ne.2 (by omega)
            have hln3 : (bl == n) = false := beq_eq_false_iff_ne.2 hln
            go_wp2_with fail
            refine (need_no w4).mono ?_
            rintro _ w5 ⟨rfl, rfl⟩
            exact ⟨rfl, HB4.out, rfl⟩
        · have hR := HR.out
          rw [if_neg (fun q => hbe q.1)] at hR
          subst hR
          clear HR
          have hb2 : (be == 0) = false := beq_eq_false_iff_ne.2 hbe
          go_wp2_with fail
          refine (need_no w4).mono ?_
          rintro _ w5 ⟨rfl, rfl⟩
          exact ⟨rfl, HB4.out, rfl⟩
end Go.Proofs.YtelnefngkdfcoaaGreat
/-
  caught: what reading answers, or an error where it came upon a fault.
-/
namespace Go.Proofs.YtelnefngkdfcoaaGreat
open Go.RowKit

set_option maxRecDepth 100000 in
theorem catchb_idle (p : Addr) (w : World) :
    CallsD Tryz.prog 81 #[.pointer (some p)] .returning w fun e u' w' => e = .returned (.tuple #[]) ∧ u' = .returning ∧ w' = w := by
  refine callsD_of_wpS Tryz.func81 rfl fun c₀ cs hu => ?_
  apply wpS_seq
  apply wpS_region
  simp [wpOpsS, go_sem, recoverD, hu, Tryz.ntmps81, Exit.thenS]
  refine wpS_of_wp ?_
  change Code.wp _ _ _ ⟨#[.pointer (some p), .nilIface, undef, undef, .nilIface, undef, undef, undef, undef, undef, undef, undef, undef, undef, undef], []⟩ w
  generalize hQ : (fun (x : Exit) (a : Act) (w' : World) => bodyPostS Tryz.prog Tryz.f81 c₀ cs (fun e u' w' => e = Ending.returned (Value.tuple #[]) ∧ u' = FrameMode.returning ∧ w' = w) x a (c₀ :: cs) w') = Q
  go_wp2
  subst hQ
  refine ⟨rfl, .returning, ?_, .tuple #[], results_none rfl _ _ _, rfl, rfl, rfl⟩
  cases c₀
  simp_all
set_option maxRecDepth 100000 in
theorem catchb_fault (p : Addr) (x : Int) (w : World) (hc : w.cell? p = some (.int .i64 x)) (hz : w.frozen? p = false) (hp : p.block < w.heap.size) :
    CallsD Tryz.prog 81 #[.pointer (some p)] (.panicking faultC) w fun e u' w' => e = .returned (.tuple #[]) ∧ u' = .panicking [{ v := .iface 115 (.agg #[]), recovered := true }] ∧ w' = (w.alloc (.cells #[] 115)).setCell p (.int .i64 70) := by
  refine callsD_of_wpS Tryz.func81 rfl fun c₀ cs hu => ?_
  apply wpS_seq
  apply wpS_region
  simp [wpOpsS, go_sem, recoverD, hu, Tryz.ntmps81, Exit.thenS]
  refine wpS_of_wp ?_
  have hb := bel_alloc w (.cells #[] 115)
  have hc2 : (w.alloc (.cells #[] 115)).cell? p = some (.int .i64 x) := (hb.cell hp).trans hc
  have hz2 : (w.alloc (.cells #[] 115)).frozen? p = false := (hb.frozen hp).trans hz
  have A := assert75
  clear hc hz hb
  change Code.wp _ _ _ ⟨#[.pointer (some p), .iface 115 (.agg #[]), undef, undef, .iface 115 (.agg #[]), undef, undef, undef, undef, undef, undef, undef, undef, undef, undef], []⟩ w
  go_wp2
  exact ⟨rfl, _, rfl, .tuple #[], results_none rfl _ _ _, rfl, rfl, rfl⟩
set_option maxRecDepth 100000 in
theorem caughtb_word (p : Addr) (w : World) (G : Option Value → World → Prop)
    (hC : Calls Tryz.prog 48 #[.pointer (some p)] (w.alloc (.cells #[.int .i64 0] 25)) fun e w' => Below (w.alloc (.cells #[.int .i64 0] 25)).heap.size (w.alloc (.cells #[.int .i64 0] 25)) w' ∧ ((e = .panicked faultC ∧ G none w') ∨ ∃ v, e = .returned v ∧ G (some v) w')) :
    Calls Tryz.prog 47 #[.func (.func 48) #[] #[.pointer (some p)]] w fun e w' => Below w.heap.size w w' ∧ ((∃ w1, G none w1 ∧ w' = (w1.alloc (.cells #[] 115)).setCell ⟨w.heap.size, 0, none⟩ (.int .i64 70) ∧ e = .returned (.tuple #[.slice none 0 0, .int .i64 70])) ∨ ∃ v w1, G (some v) w1 ∧ w' = w1.setCell ⟨w.heap.size, 0, none⟩ (.int .i64 0) ∧ e = .returned (.tuple #[v, .int .i64 0])) := by
  have hmf : ∀ (fn : Fn) (first cap : Array Value) (w : World), (Instr.makeFunc fn first cap).run Tryz.prog w = .ok (.func fn first cap) w := fun _ _ _ _ => rfl
  have HC := hid hC
  clear hC
  go_enter_defers Tryz.func47, Tryz.ntmps47
  go_wp2_with fail
  refine HC.out.mono ?_
  have e0 := heap_new w (.cells #[.int .i64 0] 25)
  have hb0 := bel_alloc w (.cells #[.int .i64 0] 25)
  have s0 : (w.alloc (.cells #[.int .i64 0] 25)).heap.size = w.heap.size + 1 := by simp
  rintro e w1 ⟨hb, ⟨rfl, hG⟩ | ⟨v, rfl, hG⟩⟩
  · have e1 := (hb.block w.heap.size (by omega)).trans e0
    have c1 := Joins.cell_of_block e1 0
    have u1 := Joins.unfrozen_of_block e1 0
    simp only [List.getElem?_toArray, List.getElem?_cons_zero] at c1
    have hB := Bn hb0 hb
    have hs1 := hb.size
    have hB2 := (hB.alloc hB.size (.cells #[] 115)).setCell (p := ⟨w.heap.size, 0, none⟩) (Nat.le_refl _) (.int .i64 70)
    have c2 : ((w1.alloc (.cells #[] 115)).setCell ⟨w.heap.size, 0, none⟩ (.int .i64 70)).cell? ⟨w.heap.size, 0, none⟩ = some (.int .i64 70) := by
      have e2 := heap_old w1 (.cells #[] 115) e1
      have e3 := Joins.block_setCell (v := .int .i64 70) (i := 0) e2
      simpa using Joins.cell_of_block e3 0
    have HB2 := hid hB2
    have HG := hid hG
    clear hB2 hB hb hb0 s0 hG HC e0
    refine leaves_cons (f := 81) (args := #[.pointer (some ⟨w.heap.size, 0, none⟩)]) (by simp) (by simp [go_sem]) ?_
    refine (catchb_fault ⟨w.heap.size, 0, none⟩ 0 w1 c1 u1 (by have := (Array.getElem?_eq_some_iff.1 e1).1; exact this)).mono ?_
    rintro e u' w'' ⟨rfl, rfl, rfl⟩
    generalize hW : (w1.alloc (.cells #[] 115)).setCell ⟨w.heap.size, 0, none⟩ (.int .i64 70) = W at *
    have HW := hid hW
    clear hW
    simp [Leaves, settle, results, Tryz.results47, go_sem, c2]
    exact ⟨HB2.out, w1, HG.out, HW.out.symm⟩
  · have e1 := (hb.block w.heap.size (by omega)).trans e0
    have c1 := Joins.cell_of_block e1 0
    have u1 := Joins.unfrozen_of_block e1 0
    simp only [List.getElem?_toArray, List.getElem?_cons_zero] at c1
    have hB := Bn hb0 hb
    have hB2 := hB.setCell (p := ⟨w.heap.size, 0, none⟩) (Nat.le_refl _) (.int .i64 0)
    have c2 : (w1.setCell ⟨w.heap.size, 0, none⟩ (.int .i64 0)).cell? ⟨w.heap.size, 0, none⟩ = some (.int .i64 0) := by
      have e3 := Joins.block_setCell (v := .int .i64 0) (i := 0) e1
      simpa using Joins.cell_of_block e3 0
    have HB2 := hid hB2
    have HG := hid hG
    clear hB2 hB hb hb0 s0 hG HC e0 e1
    go_wp2_with fail
    refine leaves_cons (f := 81) (args := #[.pointer (some ⟨w.heap.size, 0, none⟩)]) (by simp) (by simp [go_sem]) ?_
    refine (catchb_idle ⟨w.heap.size, 0, none⟩ _).mono ?_
    rintro e u' w'' ⟨rfl, rfl, hw⟩
    obtain rfl := hw.symm
    clear hw
    generalize hW : w1.setCell ⟨w.heap.size, 0, none⟩ (.int .i64 0) = W at *
    have HW := hid hW
    clear hW
    simp [Leaves, settle, results, Tryz.results47, go_sem, c2]
    exact ⟨HB2.out, v, w1, HG.out, HW.out.symm, rfl⟩
end Go.Proofs.YtelnefngkdfcoaaGreat
/-
  Decode: its closure, and the whole.
-/
namespace Go.Proofs.YtelnefngkdfcoaaGreat
open Go.RowKit Hf

def DclPost (zs : List Int) (w : World) (e : Ending) (w' : World) : Prop :=
  Below w.heap.size w w' ∧ match rowO zs with
  | none => e = .panicked faultC
  | some l => ∃ a c, e = .returned (.slice a l.length c) ∧ Ri w' .u8 a c l
set_option maxHeartbeats 3200000 in
set_option maxRecDepth 100000 in
theorem dcl_word (gb : Nat) (a : Option Addr) (cap : Nat) (zs : List Int) (w : World) (hbx : w.cell? ⟨gb, 0, none⟩ = some (.slice a zs.length cap)) (hr : Ri w .u8 a cap zs) (hn : zs.length ≤ 4200) :
    Calls Tryz.prog 48 #[.pointer (some ⟨gb, 0, none⟩)] w (DclPost zs w) := by
  have e0 := heap_new w (.cells #[.slice none 0 0] 80)
  have hb0 := bel_alloc w (.cells #[.slice none 0 0] 80)
  have HR := hid hr
  have HB0 := hid hb0
  have HNN := hid hn
  have q39 : (Tryz.prog.info? 80).map (·.size) = some (#[Value.slice a zs.length cap] : Array Value).size := by kernel_rfl
  have o39 : (#[Value.slice a zs.length cap] : Array Value).all (·.oneCell') = true := by simp [Value.oneCell']
  clear hr hb0 hn
  obtain ⟨len, hl⟩ : ∃ n, n = zs.length := ⟨_, rfl⟩
  have HL := hid hl
  rw [← hl] at hbx q39 o39
  clear hl
  unfold DclPost
  have HRW : Hid (∀ W, Rr w W w.heap.size 80 [] a cap zs → Calls Tryz.prog 49 #[.pointer (some ⟨w.heap.size, 0, none⟩)] W (RowPost w (rowO zs))) := fun W hW => row_word w W w.heap.size a cap zs hW HNN.out
  generalize rowO zs = R at *
  go_enter Tryz.func48, Tryz.ntmps48
  go_wp2_with (refine wpList_store_rowTo rfl 80 _ _ rfl rfl w.heap.size #[.slice a len cap] rfl rfl 80 _ e0 q39 rfl o39 ?_)
  have hRr : Rr w ((w.alloc (.cells #[.slice none 0 0] 80)).setRow w.heap.size #[.slice a len cap]) w.heap.size 80 [] a cap zs :=
    ⟨by rw [← HL.out]; exact setRow_heap _ _ _ _ _ _ e0, HR.out, below_setRow HB0.out (Nat.le_refl _) _, Nat.le_refl _⟩
  have HT := hid (HRW.out _ hRr)
  clear hRr e0
  generalize (w.alloc (.cells #[.slice none 0 0] 80)).setRow w.heap.size #[.slice a len cap] = w1 at *
  refine HT.out.mono ?_
  rintro e w2 ⟨hb, he⟩
  cases R with
  | none =>
    dsimp only at he
    subst he
    exact ⟨rfl, hb, rfl⟩
  | some l =>
    obtain ⟨a2, c2, rfl, hri⟩ := he
    have HB := hid hb
    have HRI := hid hri
    obtain ⟨ll, hll⟩ : ∃ n, n = l.length := ⟨_, rfl⟩
    have HLL := hid hll
    rw [← hll]
    clear hb hri hll HT
    go_wp2_with fail
    go_ret
    refine ⟨HB.out, a2, c2, ?_, HRI.out⟩
    rw [← HLL.out]
    rfl
def DecPost (zs : List Int) (w : World) (e : Ending) (w' : World) : Prop :=
  Below w.heap.size w w' ∧ match rowO zs with
  | none => e = .returned (.tuple #[.slice none 0 0, .int .i64 70])
  | some l => ∃ a c, e = .returned (.tuple #[.slice a l.length c, .int .i64 0]) ∧ Ri w' .u8 a c l
set_option maxHeartbeats 3200000 in
set_option maxRecDepth 100000 in
theorem decode_word (a : Option Addr) (cap : Nat) (zs : List Int) (w : World) (hr : Ri w .u8 a cap zs) (hn : zs.length ≤ 4200) :
    Calls Tryz.prog 17 #[.slice a zs.length cap] w (DecPost zs w) := by
  have hmf : ∀ (fn : Fn) (first cap : Array Value) (w : World), (Instr.makeFunc fn first cap).run Tryz.prog w = .ok (.func fn first cap) w := fun _ _ _ _ => rfl
  have hb1 := bel_alloc w (.cells #[.slice a zs.length cap] 24)
  have e1 := heap_new w (.cells #[.slice a zs.length cap] 24)
  have s1 : (w.alloc (.cells #[.slice a zs.length cap] 24)).heap.size = w.heap.size + 1 := by simp
  generalize hW1 : w.alloc (.cells #[.slice a zs.length cap] 24) = w1 at *
  have hb2 := bel_alloc w1 (.cells #[.int .i64 0] 25)
  have e2 := heap_new w1 (.cells #[.int .i64 0] 25)
  have hcl := dcl_word w.heap.size a cap zs (w1.alloc (.cells #[.int .i64 0] 25)) ((hb2.cell (p := ⟨w.heap.size, 0, none⟩) (by show w.heap.size < w1.heap.size; omega)).trans (by simpa using Joins.cell_of_block e1 0)) ((hr.later hb1).later hb2) hn
  have HCW := hid (caughtb_word ⟨w.heap.size, 0, none⟩ w1 (fun o w' => Below (w1.alloc (.cells #[.int .i64 0] 25)).heap.size (w1.alloc (.cells #[.int .i64 0] 25)) w' ∧ match rowO zs with | none => o = none | some l => ∃ a c, o = some (.slice a l.length c) ∧ Ri w' .u8 a c l) (hcl.mono (by
    rintro e w' ⟨hb, he⟩
    refine ⟨hb, ?_⟩
    cases hu : rowO zs with
    | none => rw [hu] at he; exact .inl ⟨he, hb, rfl⟩
    | some l =>
      rw [hu] at he
      obtain ⟨a2, c2, rfl, hrt⟩ := he
      exact .inr ⟨_, rfl, hb, a2, c2, rfl, hrt⟩)))
  have HB1 := hid hb1
  have HE2 := hid e2
  have HW1 := hid hW1
  have HN := hid hn
  clear hcl hb2 e2 hb1 s1 hr
  have c1 := Joins.cell_of_block e1 0
  simp only [List.getElem?_toArray, List.getElem?_cons_zero] at c1
  unfold DecPost
  generalize rowO zs = R at *
  generalize zs.length = len at *
  have hlb : ¬ (262144 : Int) < (len : Int) := by have := HN.out; omega
  clear hn e1 hW1
  have HC1 := hid c1
  clear c1
  go_enter Tryz.func17, Tryz.ntmps17
  go_wp2_with fail
  rw [HW1.out]
  refine HCW.out.mono ?_
  rintro e w2 ⟨hb, ⟨wq, ⟨hbq, hG⟩, hw, rfl⟩ | ⟨v, wq, ⟨hbq, hG⟩, hw, rfl⟩⟩
  · have hR : R = none := by
      cases R with
      | none => rfl
      | some l => obtain ⟨_, _, h, _⟩ := hG; cases h
    subst hR
    have HB := hid (Bn HB1.out hb)
    clear hG hbq hw hb HCW
    go_wp2_with fail
    go_ret2
    exact ⟨HB.out, rfl⟩
  · have e3 := (hbq.block w1.heap.size (by simp)).trans HE2.out
    rw [setCell_same e3 (by simp)] at hw
    subst hw
    cases R with
    | none => cases hG
    | some l =>
      obtain ⟨a2, c2, h, hrt⟩ := hG
      have h' := Option.some.inj h
      subst h'
      have HB := hid (Bn HB1.out hb)
      have HRT := hid hrt
      clear hrt hbq hb HCW h e3
      obtain ⟨ll, hll⟩ : ∃ n, n = l.length := ⟨_, rfl⟩
      have HLL := hid hll
      rw [← hll]
      clear hll
      go_wp2_with fail
      go_ret2
      exact ⟨HB.out, a2, c2, by rw [← HLL.out]; rfl, HRT.out⟩
end Go.Proofs.YtelnefngkdfcoaaGreat
/-
  A row's code: the contract of coded.
-/
namespace Go.Proofs.YtelnefngkdfcoaaGreat
open Go.RowKit

def codB (f n : Nat) (zs : List Int) : List Int := [(f : Int)] ++ vint (n : Int) ++ zs
set_option maxHeartbeats 1600000 in
set_option maxRecDepth 100000 in
theorem coded_word (f n : Nat) (a : Option Addr) (cap : Nat) (zs : List Int) (w : World) (hr : Ri w .u8 a cap zs) (hf : f ≤ 255) (hn : n ≤ 100000) (hz : zs.length ≤ 100000) (hvl : (vint (n : Int)).length ≤ 10) :
    Calls Tryz.prog 45 #[.int .u8 (f : Int), .int .i64 (n : Int), .slice a zs.length cap] w fun e w' => ∃ v, e = .returned v ∧ w'.ownsRow w.heap.size 5 1 v (codB f n zs).length ((codB f n zs).map (Value.int .u8)) ∧ Below w.heap.size w w' := by
  have hb0 := bel_alloc w (.cells #[.int .u8 (f : Int)] 5)
  have e0 := heap_new w (.cells #[.int .u8 (f : Int)] 5)
  have HR0 := hid (hr.later hb0)
  have HRF : Hid (Ri (w.alloc (.cells #[.int .u8 (f : Int)] 5)) .u8 (some ⟨w.heap.size, 0, none⟩) 1 [(f : Int)]) := by
    refine ⟨Nat.le_refl _, by unfold maxLen; omega, fun _ => ⟨w.heap.size, 0, rfl, by simp, fun j hj => ?_⟩, fun j => ?_⟩
    · have : j = 0 := by simpa using hj
      subst this
      exact Joins.cell_of_block e0 0
    · match j with
      | 0 => exact wf_mk_u8 (by simp) (by simp; omega)
      | j + 1 => exact wf_mk_u8 (by simp) (by simp)
  have HV := hid (varint_ri (n : Int) (w.alloc (.cells #[.int .u8 (f : Int)] 5)) (by omega) (by omega))
  have HB0 := hid hb0
  have HZ := hid hz
  have HVL := hid hvl
  have HWU : Hid (IntKind.u64.wrap (n : Int) = (n : Int)) := IntWalk.u64_in _ ⟨by omega, by omega⟩
  obtain ⟨len, hl⟩ : ∃ k, k = zs.length := ⟨_, rfl⟩
  have HL := hid hl
  rw [← hl]
  clear hr hb0 e0 hz hvl hl
  have hnl : (n : Int) < 18446744073709551616 := by omega
  clear hn
  go_enter Tryz.func45, Tryz.ntmps45
  go_wp2_with fail
  refine HV.out.mono ?_
  rintro _ w1 ⟨a1, c1, rfl, hr1, hb1⟩
  have HR1 := hid hr1
  have HB1 := hid hb1
  have HR2 := hid (HR0.out.later hb1)
  have HR3 := hid (HRF.out.later hb1)
  clear HV hr1 hb1 HR0 HRF
  obtain ⟨vl, hvl⟩ : ∃ k, k = (vint (n : Int)).length := ⟨_, rfl⟩
  have HVL2 := hid hvl
  rw [← hvl]
  clear hvl
  have hb2 := bel_alloc w1 (.cells #[.slice (some ⟨w.heap.size, 0, none⟩) 1 1, .slice a1 vl c1, .slice a len cap] 24)
  have e2 := heap_new w1 (.cells #[.slice (some ⟨w.heap.size, 0, none⟩) 1 1, .slice a1 vl c1, .slice a len cap] 24)
  have HCC : Hid (Calls Tryz.prog 24 #[.slice (some ⟨w1.heap.size, 0, none⟩) 3 3] (w1.alloc (.cells #[.slice (some ⟨w.heap.size, 0, none⟩) 1 1, .slice a1 vl c1, .slice a len cap] 24)) fun e w' => ∃ v, e = .returned v ∧ w'.ownsRow (w1.alloc (.cells #[.slice (some ⟨w.heap.size, 0, none⟩) 1 1, .slice a1 vl c1, .slice a len cap] 24)).heap.size 5 1 v (codB f n zs).length ((codB f n zs).map (Value.int .u8)) ∧ Below (w1.alloc (.cells #[.slice (some ⟨w.heap.size, 0, none⟩) 1 1, .slice a1 vl c1, .slice a len cap] 24)).heap.size (w1.alloc (.cells #[.slice (some ⟨w.heap.size, 0, none⟩) 1 1, .slice a1 vl c1, .slice a len cap] 24)) w') :=
    concat3 w1.heap.size _ (by simp) (some ⟨w.heap.size, 0, none⟩) a1 a 1 c1 cap [(f : Int)] (vint (n : Int)) zs (by simp) (by rw [← HVL2.out]; simp) (by rw [← HL.out]; simp) (HR3.out.later hb2) (HR1.out.later hb2) (HR2.out.later hb2) (by have := HZ.out; have := HVL.out; simp only [List.length_singleton]; omega)
  have HB2 := hid (Bn (Bn HB0.out HB1.out) hb2)
  clear hb2 e2 HR1 HR2 HR3 HB0 HB1
  go_wp2_with fail
  refine HCC.out.mono ?_
  rintro _ w3 ⟨v, rfl, ho, hb3⟩
  have HO := hid (own_mono ho HB2.out.size)
  have HB3 := hid (Bn HB2.out hb3)
  clear ho hb3 HCC
  go_wp2_with fail
  go_ret
  exact ⟨_, rfl, HO.out, HB3.out⟩
end Go.Proofs.YtelnefngkdfcoaaGreat
/-
  Plain facts: packed tokens are unpacked as they were, a row is decoded as it was encoded.
-/
namespace Go.Proofs.YtelnefngkdfcoaaGreat
open Hf Lz

theorem symL_code {ls : List Int} (hc : checkB ls = true) (x : Nat) (hx : x < ls.length) (h0 : 0 < ls.getD x 0) : symL ls (codesL ls) x = low (codeN ls x) (ls.getD x 0).toNat := by
  have hok : lenOk ls = true := by unfold checkB at hc; rw [Bool.and_eq_true] at hc; exact hc.1
  have hr := (lenOk_all hok).2 _ (show ls.getD x 0 ∈ ls from by simp [List.getD, List.getElem?_eq_getElem hx])
  have hlt := codeN_lt hc x (ls.getD x 0).toNat hx (by omega) (by omega) (by omega)
  have hp : 2 ^ (ls.getD x 0).toNat ≤ 2 ^ 15 := Nat.pow_le_pow_right (by decide) (by omega)
  unfold symL
  rw [codesL_getD ls x hx]
  unfold codeF
  rw [if_pos h0, Int.toNat_natCast, Nat.mod_eq_of_lt (by omega)]
theorem chk_cases {t : Tkz} (h : chkZ t = 0) : (t.1 = 0 ∧ t.2.1 = 1) ∨ (1 ≤ t.1 ∧ t.1 ≤ 4096 ∧ 4 ≤ t.2.1 ∧ t.2.1 ≤ 258 ∧ t.2.2 = 0) := by
  unfold chkZ kindZ at h
  by_cases h1 : litB t = true
  · left; unfold litB at h1; simpa using h1
  · by_cases h2 : cpyB t = true
    · right; unfold cpyB at h2; simpa using h2
    · simp [h1, h2] at h
structure Tg (ls ds : List Int) (t : Tkz) : Prop where
  chk : chkZ t = 0
  u8 : 0 ≤ t.2.2 ∧ t.2.2 ≤ 255
  sym : 0 < ls.getD (symZ t).toNat 0
  dst : t.1 ≠ 0 → 0 < ds.getD (dstZ t.1).toNat 0
theorem tok_read {ls ds : List Int} (h1 : checkB ls = true) (h2 : checkB ds = true) (hl : ls.length = 511) (hd : ds.length = 13) {t : Tkz} (ht : Tg ls ds t) (s : Bst) (r : List Nat) (hs : bitsOf s = tokL ls (codesL ls) ds (codesL ds) t ++ r) :
    ∃ s', tokR (treeG ls ls.length) (treeG ds ds.length) s = some (t, s') ∧ bitsOf s' = r := by
  obtain ⟨d, n, x⟩ := t
  obtain ⟨hk, h8, hp, hq⟩ := ht
  dsimp only at *
  unfold tokL at hs
  dsimp only at hs
  unfold symZ at hs hp
  dsimp only at hs hp
  rcases chk_cases hk with ⟨e1, e2⟩ | ⟨e1, e2, e3, e4, e5⟩
  · dsimp only at e1 e2
    subst e1 e2
    rw [if_pos rfl] at hs hp
    rw [if_pos rfl, symL_code h1 _ (by omega) hp] at hs
    obtain ⟨s', r1, r2⟩ := symR_walk ls h1 x.toNat (by omega) hp s r hs
    refine ⟨s', ?_, r2⟩
    unfold tokR
    rw [r1]
    dsimp only
    rw [if_pos (by omega), show ((x.toNat : Nat) : Int) = x from by omega]
  · dsimp only at e1 e2 e3 e4 e5
    subst e5
    have hdr := dst_rng e1 e2
    have hq' := hq (by omega)
    rw [if_neg (by omega)] at hs hp
    rw [if_neg (by omega), symL_code h1 _ (by omega) hp, symL_code h2 _ (by omega) hq', List.append_assoc, List.append_assoc] at hs
    obtain ⟨s1, r1, r2⟩ := symR_walk ls h1 (252 + n).toNat (by omega) hp s _ hs
    obtain ⟨s2, r3, r4⟩ := symR_walk ds h2 (dstZ d).toNat (by omega) hq' s1 _ r2
    obtain ⟨s3, r5, r6⟩ := distR_low d.toNat (dstZ d).toNat 1 s2 r r4
    refine ⟨s3, ?_, r6⟩
    unfold tokR
    rw [r1]
    dsimp only
    rw [if_neg (by omega), r3]
    dsimp only
    rw [Int.toNat_natCast, r5]
    dsimp only
    have hlog : 2 ^ (dstZ d).toNat * 1 + d.toNat % 2 ^ (dstZ d).toNat = d.toNat := by
      unfold dstZ
      rw [Int.toNat_natCast, Nat.mul_one]
      have a1 := Nat.log2_self_le (show d.toNat ≠ 0 by omega)
      have a2 : d.toNat < 2 ^ (Nat.log2 d.toNat + 1) := Nat.lt_log2_self
      rw [Nat.pow_succ] at a2
      rw [Nat.mod_eq_sub_mod a1, Nat.mod_eq_of_lt (by omega)]
      omega
    rw [hlog, show ((d.toNat : Nat) : Int) = d from by omega, show (((252 + n).toNat : Nat) : Int) - 252 = n from by omega]
theorem toks_read {ls ds : List Int} (h1 : checkB ls = true) (h2 : checkB ds = true) (hl : ls.length = 511) (hd : ds.length = 13) : ∀ (m acc : List Tkz) (s : Bst) (r : List Nat), (∀ t ∈ m, Tg ls ds t) → bitsOf s = m.flatMap (tokL ls (codesL ls) ds (codesL ds)) ++ r →
    ∃ s', toksG (treeG ls ls.length) (treeG ds ds.length) m.length acc s = some (acc ++ m, s')
  | [], acc, s, r, _, _ => ⟨s, by simp [toksG]⟩
  | t :: m, acc, s, r, ht, hs => by
    rw [List.flatMap_cons, List.append_assoc] at hs
    obtain ⟨s1, r1, r2⟩ := tok_read h1 h2 hl hd (ht t (List.mem_cons_self ..)) s _ hs
    obtain ⟨s2, r3⟩ := toks_read h1 h2 hl hd m (acc ++ [t]) s1 r (fun u hu => ht u (List.mem_cons_of_mem _ hu)) r2
    refine ⟨s2, ?_⟩
    rw [List.length_cons, toksG, r1]
    dsimp only
    rw [r3]
    simp
theorem codes_all (l : List Tkz) (hn : l.length ≤ 65536) : (lsF l).length = 511 ∧ checkB (lsF l) = true ∧ (dsF l).length = 13 ∧ checkB (dsF l) = true ∧ (∀ u, u < 511 → 0 < (kindsN l l.length).getD u 0 → 0 < (lsF l).getD u 0) ∧ (∀ u, u < 13 → 0 < (distsN l l.length).getD u 0 → 0 < (dsF l).getD u 0) := by
  obtain ⟨a1, a2, a3⟩ := lenF_all (cs := intL (kindsN l l.length)) (by rw [intL_length, kinds_length]; decide) (fun k => by rw [intL_getD]; have := kinds_le l l.length k; omega)
  obtain ⟨b1, b2, b3⟩ := lenF_all (cs := intL (distsN l l.length)) (by rw [intL_length, dists_length]; decide) (fun k => by rw [intL_getD]; have := dists_le l l.length k; omega)
  rw [intL_length, kinds_length] at a1 a3
  rw [intL_length, dists_length] at b1 b3
  exact ⟨a1, a2, b1, b2, fun u hu h => a3 u hu (by rw [intL_getD]; omega), fun u hu h => b3 u hu (by rw [intL_getD]; omega)⟩
theorem unp_pack (l : List Tkz) (hn : l.length ≤ 65536) (hz : (sizeO l).2 = 0) (h8 : ∀ j, j < l.length → 0 ≤ (l.getD j tk0).2.2 ∧ (l.getD j tk0).2.2 ≤ 255) : unpO (packB l) = some l := by
  obtain ⟨a1, a2, b1, b2, a3, b3⟩ := codes_all l hn
  have hall := sizeO_all hz
  have hT : ∀ t ∈ l, Tg (lsF l) (dsF l) t := fun t ht => by
    obtain ⟨j, hj, rfl⟩ := List.getElem_of_mem ht
    have e : l.getD j tk0 = l[j] := by simp [List.getD, List.getElem?_eq_getElem hj]
    have c1 := hall j hj
    have c2 := h8 j hj
    have c3 := kinds_pos l j hj
    have c4 := dists_pos l j hj
    rw [e] at c1 c2 c3 c4
    have c5 := chk_two c1 c2
    refine ⟨c1, c2, a3 _ (by rcases c5 with h | h <;> omega) (c3 (by rcases c5 with h | h <;> omega)), fun hne => ?_⟩
    rcases c5 with h | h
    · exact absurd h.1 hne
    · have := dst_rng h.1 h.2.1
      exact b3 _ (by omega) (c4 (by omega) (by omega))
  obtain ⟨M, e1, e2, _⟩ := Wv.toks (H := headP l) (lsF l) (codesL (lsF l)) (dsF l) (codesL (dsF l)) l l.length (Nat.le_refl _)
  rw [List.take_length] at e2
  obtain ⟨s', hs⟩ := toks_read a2 b2 a1 b1 l [] (M, 0, 0) _ hT (by unfold bitsOf; dsimp only; rw [low, List.nil_append]; exact e2)
  have hp : packB l = headP l ++ M := by unfold packB; exact e1
  have ht : toksR (packB l) = some (l, s') := by
    rw [hp]
    unfold toksR headP
    rw [List.append_assoc, List.append_assoc, lensR_runs 511 (by decide) _ _ a1]
    dsimp only
    rw [if_pos a2, lensR_runs 13 (by decide) _ _ b1]
    dsimp only
    rw [if_pos b2, numO_vint _ _ _ (by omega) (by decide)]
    dsimp only
    rw [hs, List.nil_append]
  unfold unpO
  rw [ht]
  dsimp only
  rw [if_pos ⟨hz, rfl⟩]

def encB (bs : List Int) : List Int := if (packB ((toksL bs).map toZ)).length < bs.length then codB 1 bs.length (packB ((toksL bs).map toZ)) else codB 0 bs.length bs
theorem tok_lit (bs : List Int) : ∀ (n q : Nat), bs.length - q ≤ n → q ≤ bs.length → (from_ bs q).length ≤ bs.length - q ∧ sumZ ((from_ bs q).map toZ) = ((bs.length - q : Nat) : Int) ∧ allB ((from_ bs q).map toZ) = true
  | 0, q, h, hq => by
    have : from_ bs q = [] := by unfold from_; rw [show bs.length - q = 0 from by omega]; rfl
    rw [this, show bs.length - q = 0 from by omega]
    simp [sumZ, allB]
  | n + 1, q, h, hq => by
    by_cases hlt : q < bs.length
    · rw [from_step hlt]
      rcases longT_cases bs q hlt with e | ⟨d, m, e, c1, c2, c3, c4, c5, c6, _, _⟩
      · rw [e]
        dsimp only
        obtain ⟨i1, i2, i3⟩ := tok_lit bs n (q + 1) (by omega) (by omega)
        refine ⟨by rw [List.length_cons]; omega, ?_, ?_⟩
        · rw [List.map_cons, sumZ, i2]; simp only [toZ]; omega
        · rw [List.map_cons, allB, List.all_cons]
          unfold allB at i3
          rw [i3]
          simp [toZ, chkZ, kindZ, litB]
      · rw [e]
        dsimp only
        obtain ⟨i1, i2, i3⟩ := tok_lit bs n (q + m) (by omega) (by omega)
        refine ⟨by rw [List.length_cons]; omega, ?_, ?_⟩
        · rw [List.map_cons, sumZ, i2]; simp only [toZ]; omega
        · rw [List.map_cons, allB, List.all_cons]
          unfold allB at i3
          rw [i3]
          have hc : chkZ (toZ (d, m, 0)) = 0 := by
            have a1 : decide ((1 : Int) ≤ (d : Int)) = true := decide_eq_true (by omega)
            have a2 : decide ((d : Int) ≤ 4096) = true := decide_eq_true (by omega)
            have a3 : decide ((4 : Int) ≤ (m : Int)) = true := decide_eq_true (by omega)
            have a4 : decide ((m : Int) ≤ 258) = true := decide_eq_true (by omega)
            have hcp : cpyB (toZ (d, m, 0)) = true := by
              unfold cpyB toZ
              dsimp only
              rw [a1, a2, a3, a4]; rfl
            unfold chkZ kindZ
            rw [hcp]
            cases litB (toZ (d, m, 0)) <;> rfl
          rw [hc]; rfl
    · have : from_ bs q = [] := by unfold from_; rw [show bs.length - q = 0 from by omega]; rfl
      rw [this, show bs.length - q = 0 from by omega]
      simp [sumZ, allB]
theorem toks_size (bs : List Int) (hL : bs.length ≤ 65536) : (toksL bs).length ≤ bs.length ∧ (sizeO ((toksL bs).map toZ)).2 = 0 := by
  obtain ⟨h1, h2, h3⟩ := tok_lit bs bs.length 0 (by omega) (by omega)
  rw [toksL_from]
  refine ⟨by omega, ?_⟩
  unfold sizeO
  rw [if_pos h3, h2, if_neg (by omega)]
theorem head_cod (f : Nat) (hf : f = 0 ∨ f = 1) (n : Nat) (hn : n ≤ 65536) (zs : List Int) : headO (codB f n zs) = some ((n, f == 1), zs) := by
  unfold headO codB
  rw [List.append_assoc, List.singleton_append]
  dsimp only
  rw [if_pos (by rcases hf with rfl | rfl <;> decide), numO_vint _ _ _ hn (by decide)]
  rcases hf with rfl | rfl <;> rfl
theorem row_enc (bs : List Int) (h8 : Bytes8 bs) (hL : bs.length ≤ 65536) : rowO (encB bs) = some bs := by
  have hts := toks_size bs (by omega)
  unfold encB
  by_cases h : (packB ((toksL bs).map toZ)).length < bs.length
  · rw [if_pos h]
    unfold rowO
    rw [head_cod 1 (.inr rfl) _ (by omega)]
    dsimp only
    rw [if_pos (show ((1 : Nat) == 1) = true from rfl), unp_pack _ (by rw [List.length_map]; omega) hts.2 (fun j hj => by
      rw [List.length_map] at hj
      have hf := tks_fit bs h8 ((toksL bs)[j]) (by unfold tksO; rw [if_neg (by omega)]; exact List.getElem_mem _)
      have e : ((toksL bs).map toZ).getD j tk0 = toZ (toksL bs)[j] := by simp [List.getD, hj]
      rw [e]
      have := wf_u8 hf.2.2
      simpa [toZ] using this)]
    dsimp only
    rw [back_eq bs h8 (by omega)]
    rw [if_pos ⟨rfl, rfl⟩]
  · rw [if_neg h]
    unfold rowO
    rw [head_cod 0 (.inl rfl) _ (by omega)]
    simp
end Go.Proofs.YtelnefngkdfcoaaGreat
