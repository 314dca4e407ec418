/-
  The document's side: a record's bytes. The document's side: which records may be. The document's side: a file's size, a path.
-/
import Derived.Test.YtplinkmagnihmaaDoorRcE
namespace Go.Proofs.YtplinkmagnihmaaDoor
open Go.ChangeShapes Go.WideShapes Go.ChangeAt Go.RowKit Go.Deep

set_option maxHeartbeats 3200000 in
set_option maxRecDepth 100000 in
theorem dsize_word (a : Option Addr) (cap : Nat) (l : List Pc) (w : World) (hr : Rp w a cap l) :
    Calls Tryd.prog 70 #[.slice a l.length cap] w fun e w' => e = .returned (.tuple #[.int .i64 (sizO l).1, .int .i64 (sizO l).2]) ∧ w' = w := by
  have hroom := hr.room
  have hmost := hr.most
  unfold maxLen at hmost
  have HR := hid hr
  obtain ⟨len, hle⟩ : ∃ n, n = l.length := ⟨_, rfl⟩
  have HL := hid hle
  rw [← hle] at hroom ⊢
  clear hr hle
  by_cases hlong : 4096 < len
  · have e1 : ((4096 : Nat) : Int) < (len : Int) := by omega
    have HS : Hid (sizO l = (0, 130)) := by show _ = _; unfold sizO; rw [← HL.out, if_pos hlong]
    go_enter Tryd.func70, Tryd.ntmps70
    go_wp2
    go_ret2
    exact ⟨by rw [HS.out]; rfl, rfl⟩
  go_enter Tryd.func70, Tryd.ntmps70
  go_wp2
  go_loop [4, 5] (fun x4 x5 => ∃ k : Nat, k ≤ len ∧ x5 = .int .i64 (k : Int) ∧ x4 = .int .i64 (sumP (l.take k)) ∧ Hid ((l.take k).all nOk = true)) (fun _ x5 => len - (intOf x5).toNat)
  case atStart => exact ⟨0, by omega, rfl, rfl, rfl⟩
  case round =>
    obtain ⟨k, hk, rfl, rfl, HA⟩ := hrel
    have hsb := sumP_bound _ HA.out
    have htl : (l.take k).length ≤ 4096 := by simp; omega
    by_cases hlt : k < len
    · have hkz : (k : Int) < (len : Int) := by omega
      obtain ⟨b, off, rfl, hbw, hc⟩ := HR.out.cells (by rw [← HL.out]; omega)
      have hrg := (hc k (by rw [← HL.out]; exact hlt))
      have hok := HR.out.get (j := k) (by rw [← HL.out]; exact hlt)
      have HTK := hid (take_pc l k (by rw [← HL.out]; exact hlt))
      have HNO := hid (all_false l k (by rw [← HL.out]; exact hlt))
      generalize hx : l.getD k pc0 = x at *
      have hcn : w.cell? ⟨b, off + k * 33 + 32, none⟩ = some (.int .i64 x.2) := hrg 32 _ (pcC_n hok.len)
      have hwf := wf_i64 hok.i64
      clear hrg hc hok
      obtain ⟨S, hS⟩ : ∃ S, S = sumP (l.take k) := ⟨_, rfl⟩
      have HS := hid hS
      rw [← hS] at hsb ⊢
      clear hS
      by_cases hx1 : x.2 < 1
      · have HX : Hid (nOk x = false) := decide_eq_false (by omega)
        go_wp2
        go_ret2
        refine ⟨?_, rfl⟩
        unfold sizO
        rw [← HL.out, if_neg hlong, HNO.out HX.out]
        rfl
      · by_cases hx2 : 4096 < x.2
        · have HX : Hid (nOk x = false) := decide_eq_false (by omega)
          go_wp2
          go_ret2
          refine ⟨?_, rfl⟩
          unfold sizO
          rw [← HL.out, if_neg hlong, HNO.out HX.out]
          rfl
        · have HX : Hid (nOk x = true) := decide_eq_true (by omega)
          go_wp2
          go_round
          case rel => exact ⟨k + 1, by omega, by go_num, by rw [HTK.out, sumP_app, HS.out]; simp [sumP], by show _ = _; rw [HTK.out, List.all_append, HA.out]; simp [HX.out]⟩
          case measure => simp [intOf]; omega
    · have hkl : k = len := by omega
      subst hkl
      have HT : Hid (l.take k = l) := List.take_of_length_le (by rw [HL.out]; exact Nat.le_refl _)
      rw [HT.out] at hsb HA ⊢
      obtain ⟨S, hS⟩ : ∃ S, S = sumP l := ⟨_, rfl⟩
      have HS := hid hS
      rw [← hS] at hsb ⊢
      clear hS
      by_cases hbig : 1048576 < S
      · go_wp2
        go_ret2
        refine ⟨?_, rfl⟩
        unfold sizO
        rw [← HL.out, if_neg hlong, if_pos HA.out, ← HS.out, if_pos (by omega)]
        rfl
      · go_wp2
        go_ret2
        refine ⟨?_, rfl⟩
        unfold sizO
        rw [← HL.out, if_neg hlong, if_pos HA.out, ← HS.out, if_neg (by omega)]
        rfl
set_option maxHeartbeats 3200000 in
set_option maxRecDepth 100000 in
theorem dpath_word (s : ByteArray) (w : World) (hs : s.size ≤ maxLen) : Calls Tryd.prog 71 #[.string s] w fun e w' => e = .returned (.bool (pathB s)) ∧ w' = w := by
  unfold maxLen at hs
  by_cases hx0 : (s.size : Int) < 1
  · have HX : Hid (decide (1 ≤ s.size ∧ s.size ≤ 255) = false) := decide_eq_false (by omega)
    have HP : Hid (pathB s = false) := by show _ = _; unfold pathB; rw [HX.out]; rfl
    go_enter Tryd.func71, Tryd.ntmps71
    go_wp2
    go_ret
    exact ⟨by rw [HP.out]; rfl, rfl⟩
  by_cases hx1 : 255 < (s.size : Int)
  · have HX : Hid (decide (1 ≤ s.size ∧ s.size ≤ 255) = false) := decide_eq_false (by omega)
    have HP : Hid (pathB s = false) := by show _ = _; unfold pathB; rw [HX.out]; rfl
    go_enter Tryd.func71, Tryd.ntmps71
    go_wp2
    go_ret
    exact ⟨by rw [HP.out]; rfl, rfl⟩
  have HX : Hid (decide (1 ≤ s.size ∧ s.size ≤ 255) = true) := decide_eq_true (by omega)
  have e0 : decide ((s.size : Int) < 1) = false := decide_eq_false hx0
  have e1 : decide (255 < (s.size : Int)) = false := decide_eq_false hx1
  have e2 : decide (255 < s.size) = false := decide_eq_false (by omega)
  go_enter Tryd.func71, Tryd.ntmps71
  go_wp2
  go_loop [3] (fun x => ∃ k : Nat, k ≤ s.size ∧ x = .int .i64 (k : Int) ∧ Hid ((s.data.toList.take k).all chr8 = true)) (fun x => s.size - (intOf x).toNat)
  case atStart => exact ⟨0, by omega, rfl, rfl⟩
  case round =>
    obtain ⟨k, hk, rfl, HA⟩ := hrel
    by_cases hlt : k < s.size
    · have hkz : (k : Int) < (s.size : Int) := by omega
      have HTK := hid (str_take s k hlt)
      by_cases h33 : (33 : Int) ≤ (s[k].toNat : Int)
      · by_cases h126 : (s[k].toNat : Int) ≤ 126
        · have HC : Hid (chr8 s[k] = true) := decide_eq_true (by omega)
          go_wp2
          go_round
          case rel => exact ⟨k + 1, by omega, by go_num, by show _ = _; rw [HTK.out, List.all_append, HA.out]; simp [HC.out]⟩
          case measure => simp [intOf]; omega
        · have HC : Hid (chr8 s[k] = false) := decide_eq_false (by omega)
          go_wp2
          go_ret
          exact ⟨(path_no s k hlt HC.out) ▸ rfl, rfl⟩
      · have HC : Hid (chr8 s[k] = false) := decide_eq_false (by omega)
        go_wp2
        go_ret
        exact ⟨(path_no s k hlt HC.out) ▸ rfl, rfl⟩
    · have hkl : k = s.size := by omega
      have HP : Hid (pathB s = true) := by
        show _ = _
        have := HA.out
        rw [List.take_of_length_le (by show s.size ≤ k; omega)] at this
        unfold pathB
        rw [HX.out, this]
        rfl
      go_wp2
      go_ret
      exact ⟨HP.out ▸ rfl, rfl⟩
end Go.Proofs.YtplinkmagnihmaaDoor
namespace Go.Proofs.YtplinkmagnihmaaDoor
open Go.ChangeShapes Go.WideShapes Go.ChangeAt Go.RowKit Go.Deep

set_option maxHeartbeats 3200000 in
set_option maxRecDepth 100000 in
theorem dcheck_word (r : Rec) (w : World) (h : Rv w r) : Calls Tryd.prog 52 #[.agg r.cs.toArray] w fun e w' => e = .returned (.int .i64 (e130 (mayB r))) ∧ Below w.heap.size w w' := by
  have hb := hid (bel_alc w (.cells r.cs.toArray 58))
  have B0 := Bx.mk' w r h.len
  have c0 := B0.c0
  have c1 := B0.c1
  have c34 := B0.c34
  have c35 := B0.c35
  have c36 := B0.c36
  have c37 := B0.c37
  have hroom := h.row.room
  have hmost := h.row.most
  unfold maxLen at hmost
  have HSZ := hid (dsize_word r.a r.cap r.ps _ (h.row.later hb.out))
  have HPT := hid (fun V => dpath_word r.path V h.path)
  have hor := siz_or r.ps
  have hpn : r.path = ByteArray.empty ↔ r.path.size = 0 := ⟨fun e => by rw [e]; rfl, ba_nil _⟩
  have hz0 : r.ps.length = 0 → (sizO r.ps).2 = 0 := fun e => by rw [List.length_eq_zero_iff.1 e]; rfl
  have HM : Hid (mayB r = (decide (1 ≤ r.seq ∧ r.seq ≤ 1073741824) && decide (1 ≤ r.epoch ∧ r.epoch ≤ 1073741824) && (if r.kind = 1 then decide (r.site = 0 ∨ r.site = 1) && decide (r.path.size = 0) && decide (r.ps.length = 0)
    else if r.kind = 3 then decide (r.ps.length = 0) && (decide (r.site = 0) && pathB r.path && decide ((sizO r.ps).2 = 0))
    else if r.kind = 2 then decide (r.site = 0) && pathB r.path && decide ((sizO r.ps).2 = 0)
    else false))) := rfl
  clear B0 h
  generalize r.cs.toArray = H at *
  generalize mayB r = MB at *
  generalize (sizO r.ps).1 = E1 at *
  generalize (sizO r.ps).2 = E2 at *
  generalize pathB r.path = PB at *
  generalize r.ps.length = L at *
  generalize r.site = si at *
  generalize r.path = pa at *
  generalize r.seq = sq at *
  generalize r.epoch = ep at *
  generalize r.kind = ki at *
  by_cases s1 : sq < 1
  · have HE : Hid (MB = false) := by show _ = _; rw [HM.out, decide_eq_false (show ¬ (1 ≤ sq ∧ sq ≤ 1073741824) by omega)]; rfl
    go_enter Tryd.func52, Tryd.ntmps52
    go_wp2
    go_ret
    exact ⟨by rw [HE.out]; rfl, hb.out⟩
  by_cases s2 : 1073741824 < sq
  · have HE : Hid (MB = false) := by show _ = _; rw [HM.out, decide_eq_false (show ¬ (1 ≤ sq ∧ sq ≤ 1073741824) by omega)]; rfl
    go_enter Tryd.func52, Tryd.ntmps52
    go_wp2
    go_ret
    exact ⟨by rw [HE.out]; rfl, hb.out⟩
  by_cases s3 : ep < 1
  · have HE : Hid (MB = false) := by show _ = _; rw [HM.out, decide_eq_false (show ¬ (1 ≤ ep ∧ ep ≤ 1073741824) by omega)]; simp
    go_enter Tryd.func52, Tryd.ntmps52
    go_wp2
    go_ret
    exact ⟨by rw [HE.out]; rfl, hb.out⟩
  by_cases s4 : 1073741824 < ep
  · have HE : Hid (MB = false) := by show _ = _; rw [HM.out, decide_eq_false (show ¬ (1 ≤ ep ∧ ep ≤ 1073741824) by omega)]; simp
    go_enter Tryd.func52, Tryd.ntmps52
    go_wp2
    go_ret
    exact ⟨by rw [HE.out]; rfl, hb.out⟩
  rw [decide_eq_true (show 1 ≤ sq ∧ sq ≤ 1073741824 by omega), decide_eq_true (show 1 ≤ ep ∧ ep ≤ 1073741824 by omega)] at HM
  simp only [Bool.true_and, Bool.and_self] at HM
  go_enter Tryd.func52, Tryd.ntmps52
  go_wp2_with fail
  refine HSZ.out.mono ?_
  rintro _ w0 ⟨rfl, hw⟩
  obtain rfl := hw.symm
  clear hw HSZ
  by_cases k1 : ki = 1
  · subst k1
    rw [if_pos rfl] at HM
    clear HPT
    by_cases hp : pa = ByteArray.empty
    · rw [decide_eq_true (hpn.1 hp)] at HM
      subst hp
      clear hpn hz0 hor
      by_cases hl : L = 0
      · rw [decide_eq_true hl] at HM
        subst hl
        by_cases hs : si = 0
        · subst hs
          have HE : Hid (MB = true) := HM.out
          go_wp2
          go_ret
          exact ⟨by rw [HE.out]; rfl, hb.out⟩
        · by_cases hs1 : si = 1
          · subst hs1
            have HE : Hid (MB = true) := HM.out
            go_wp2
            go_ret
            exact ⟨by rw [HE.out]; rfl, hb.out⟩
          · have HE : Hid (MB = false) := by show _ = _; rw [HM.out, decide_eq_false (show ¬ (si = 0 ∨ si = 1) by omega)]; rfl
            go_wp2
            go_ret
            exact ⟨by rw [HE.out]; rfl, hb.out⟩
      · have HE : Hid (MB = false) := by show _ = _; rw [HM.out, decide_eq_false hl]; simp
        have hl2 : ((L : Int) == 0) = false := by rw [beq_eq_false_iff_ne]; omega
        by_cases hs : si = 0
        · subst hs
          go_wp2
          go_ret
          exact ⟨by rw [HE.out]; rfl, hb.out⟩
        · by_cases hs1 : si = 1
          · subst hs1
            go_wp2
            go_ret
            exact ⟨by rw [HE.out]; rfl, hb.out⟩
          · go_wp2
            go_ret
            exact ⟨by rw [HE.out]; rfl, hb.out⟩
    · have HE : Hid (MB = false) := by show _ = _; rw [HM.out, decide_eq_false (fun e => hp (hpn.2 e))]; simp
      have hpe := ba_some pa hp
      clear hpn hz0 hor
      by_cases hs : si = 0
      · subst hs
        go_wp2
        go_ret
        exact ⟨by rw [HE.out]; rfl, hb.out⟩
      · by_cases hs1 : si = 1
        · subst hs1
          go_wp2
          go_ret
          exact ⟨by rw [HE.out]; rfl, hb.out⟩
        · go_wp2
          go_ret
          exact ⟨by rw [HE.out]; rfl, hb.out⟩
  · rw [if_neg k1] at HM
    clear hpn
    by_cases k2 : ki = 2
    · subst k2
      rw [if_neg (by decide), if_pos rfl] at HM
      by_cases hs : si = 0
      · subst hs
        go_wp2_with fail
        refine (HPT.out _).mono ?_
        rintro _ w0 ⟨rfl, hw⟩
        obtain rfl := hw.symm
        clear hw HPT
        cases PB with
        | false =>
          have HE : Hid (MB = false) := by show _ = _; rw [HM.out]; simp
          go_wp2
          go_ret
          exact ⟨by rw [HE.out]; rfl, hb.out⟩
        | true =>
          clear hz0
          rcases hor with ho | ho
          · subst ho
            have HE : Hid (MB = true) := HM.out
            go_wp2
            go_ret
            exact ⟨by rw [HE.out]; rfl, hb.out⟩
          · subst ho
            have HE : Hid (MB = false) := HM.out
            go_wp2
            go_ret
            exact ⟨by rw [HE.out]; rfl, hb.out⟩
      · have HE : Hid (MB = false) := by show _ = _; rw [HM.out, decide_eq_false hs]; simp
        clear HPT
        go_wp2
        go_ret
        exact ⟨by rw [HE.out]; rfl, hb.out⟩
    · by_cases k3 : ki = 3
      · subst k3
        rw [if_pos rfl] at HM
        by_cases hs : si = 0
        · subst hs
          go_wp2_with fail
          refine (HPT.out _).mono ?_
          rintro _ w0 ⟨rfl, hw⟩
          obtain rfl := hw.symm
          clear hw HPT
          cases PB with
          | false =>
            have HE : Hid (MB = false) := by show _ = _; rw [HM.out]; simp
            go_wp2
            go_ret
            exact ⟨by rw [HE.out]; rfl, hb.out⟩
          | true =>
            by_cases hl : L = 0
            · have hE2 := hz0 hl
              subst hl hE2
              have HE : Hid (MB = true) := HM.out
              go_wp2
              go_ret
              exact ⟨by rw [HE.out]; rfl, hb.out⟩
            · have HE : Hid (MB = false) := by show _ = _; rw [HM.out, decide_eq_false hl]; rfl
              have hl2 : ((L : Int) == 0) = false := by rw [beq_eq_false_iff_ne]; omega
              go_wp2
              go_ret
              exact ⟨by rw [HE.out]; rfl, hb.out⟩
        · have HE : Hid (MB = false) := by show _ = _; rw [HM.out, decide_eq_false hs]; simp
          clear HPT
          go_wp2
          go_ret
          exact ⟨by rw [HE.out]; rfl, hb.out⟩
      · rw [if_neg k3, if_neg k2] at HM
        have HE : Hid (MB = false) := HM.out
        clear HPT
        go_wp2
        go_ret
        exact ⟨by rw [HE.out]; rfl, hb.out⟩
end Go.Proofs.YtplinkmagnihmaaDoor
namespace Go.Proofs.YtplinkmagnihmaaDoor
open Go.ChangeShapes Go.WideShapes Go.ChangeAt Go.RowKit Go.Deep Go.Lib

theorem Wr.begin (w W : World) (r : Rec) (x y : Int) (h : Bx W w.heap.size r) (hb : Below w.heap.size w W) : Wr w (W.alloc (.cells #[.int .u8 x, .int .u8 y] 5)) r (.slice (some ⟨W.heap.size, 0, none⟩) 2 2) [x, y] :=
  ⟨⟨rfl, .inr ⟨W.heap.size, 2, #[.int .u8 x, .int .u8 y], rfl, h.lt, heap_alc W _, Nat.le_refl _, by unfold maxLen; omega, rfl, rfl⟩⟩, h.later (bel_alc _ _), Bn hb (bel_alc _ _), by simp⟩
/-- As Wr, however long the row. -/
structure Wq (w W : World) (r : Rec) (v : Value) (A : List Int) : Prop where
  own : W.ownsRow (w.heap.size + 1) 5 1 v A.length (A.map (Value.int .u8))
  box : Bx W w.heap.size r
  bel : Below w.heap.size w W
theorem Wr.q {w W : World} {r : Rec} {v : Value} {A : List Int} (h : Wr w W r v A) : Wq w W r v A := ⟨h.own, h.box, h.bel⟩
theorem Wq.ge {w W : World} {r : Rec} {v : Value} {A : List Int} (h : Wq w W r v A) : w.heap.size + 1 ≤ W.heap.size := h.box.lt
theorem Wq.later {w W W' : World} {r : Rec} {v : Value} {A : List Int} (h : Wq w W r v A) (hb : Below W.heap.size W W') : Wq w W' r v A := ⟨own_later h.own hb, h.box.later hb, Bn h.bel hb⟩
theorem Wq.app {w W W' : World} {r : Rec} {v v' : Value} {A Z : List Int} (h : Wq w W r v A) (ho : W'.ownsRow (w.heap.size + 1) 5 1 v' (A ++ Z).length ((A ++ Z).map (Value.int .u8))) (hb : Below (w.heap.size + 1) W W') : Wq w W' r v' (A ++ Z) :=
  ⟨ho, ⟨(hb.block _ (Nat.lt_succ_self _)).trans h.box.blk, h.box.len⟩, h.bel.trans (hb.mono (Nat.le_succ _))⟩
/-- What Bytes hands back: nothing, or a row of its own. -/
def BytQ (b : Bool) (w w' : World) (v : Value) (l : List Int) : Prop := (b = false ∧ v = .slice none 0 0) ∨ (b = true ∧ w'.ownsRow w.heap.size 5 1 v l.length (l.map (Value.int .u8)))
set_option maxHeartbeats 6400000 in
set_option maxRecDepth 100000 in
theorem dbytes_word (r : Rec) (w : World) (h : Rv w r) :
    Calls Tryd.prog 36 #[.agg r.cs.toArray] w fun e w' => ∃ v, e = .returned (.tuple #[v, .int .i64 (e130 (mayB r))]) ∧ Below w.heap.size w w' ∧ BytQ (mayB r) w w' v (wrB r) := by
  have hb := hid (bel_alc w (.cells r.cs.toArray 58))
  have HBX := hid (Bx.mk' w r h.len)
  have HLD := hid HBX.out.range
  have HLL := hid (Rec.cs_len h.len)
  have HCK := hid (dcheck_word r _ (h.later hb.out))
  have HVV := hid h
  have HMP : Hid (mayB r = true → ((1 ≤ r.seq ∧ r.seq ≤ 1073741824) ∧ 1 ≤ r.epoch ∧ r.epoch ≤ 1073741824) ∧ kindB r = true) := fun hm => by
    unfold mayB at hm
    simpa [and_assoc] using hm
  clear h
  generalize mayB r = MB at *
  go_enter Tryd.func36, Tryd.ntmps36
  go_wp2_with (first | refine wpList_load_g rfl 58 _ rfl w.heap.size 0 rfl r.cs _ HLD.out Tryd.underlying58 rfl (by rw [HLL.out]; exact Tryd.size58) ?_ | fail)
  refine HCK.out.mono ?_
  rintro _ W00 ⟨rfl, hb2⟩
  have HB2 := hid (Bn hb.out hb2)
  have HX2 := hid (HBX.out.later hb2)
  clear hb2 HCK HLD HBX
  cases MB with
  | false =>
    go_wp2
    go_ret2
    exact ⟨_, rfl, HB2.out, .inl ⟨rfl, rfl⟩⟩
  | true =>
  obtain ⟨⟨hsq, hep⟩, hkb⟩ := HMP.out rfl
  have hki : r.kind = 1 ∨ r.kind = 2 ∨ r.kind = 3 := by
    unfold kindB at hkb
    split at hkb
    · exact .inl ‹_›
    · split at hkb
      · exact .inr (.inr ‹_›)
      · split at hkb
        · exact .inr (.inl ‹_›)
        · cases hkb
  have hk0 : 1 ≤ r.kind := by omega
  have hk1 : r.kind ≤ 3 := by omega
  have H0 := hid (Wr.begin w W00 r 82 r.kind HX2.out HB2.out)
  have c34 := HX2.out.c34
  have c0 := H0.out.box.c0
  have HV1 := hid (fun V => varr_ri r.seq V (by omega) (by omega))
  have HV2 := hid (fun V => varr_ri r.epoch V (by omega) (by omega))
  have HKB := hid hkb
  have hsq1 := hsq.1
  have hsq2 := hsq.2
  have hep1 := hep.1
  have hep2 := hep.2
  clear hsq hep hkb HMP HX2 HB2
  have HL1 := hid (vint10 r.seq)
  have HL2 := hid (vint10 r.epoch)
  go_wp2_with fail
  refine (HV1.out _).mono ?_
  rintro _ W1 ⟨a1, c1, rfl, hr1, hb1⟩
  have H1 := hid (H0.out.later hb1)
  have R1 := hid hr1
  clear hr1 hb1 H0 HV1 c0 c34
  go_wp2_with (at_builtin; refine own_app _ rfl _ _ rfl (w.heap.size + 1) _ [82, r.kind] rfl H1.out.own a1 c1 (vint r.seq) rfl R1.out (by have := HL1.out; simp; omega) H1.out.ge ?_)
  intro v2 W2 ho2 hb2
  have H2 := hid (H1.out.app (Z := vint r.seq) (by simpa using ho2) hb2 (by have := HL1.out; simp; omega))
  have c1 := H2.out.box.c1
  clear ho2 hb2 H1 R1
  generalize hA2 : [82, r.kind] ++ vint r.seq = A2 at *
  have HA2 := hid hA2
  have HN2 : Hid (A2.length ≤ 12) := by show _ ≤ _; rw [← hA2]; have := HL1.out; simp; omega
  clear hA2
  go_wp2_with fail
  refine (HV2.out _).mono ?_
  rintro _ W3 ⟨a3, c3, rfl, hr3, hb3⟩
  have H3 := hid (H2.out.later hb3)
  have R3 := hid hr3
  clear hr3 hb3 H2 HV2 c1
  go_wp2_with (at_builtin; refine own_app _ rfl _ _ rfl (w.heap.size + 1) _ A2 rfl H3.out.own a3 c3 (vint r.epoch) rfl R3.out (by have := HL2.out; have := HN2.out; omega) H3.out.ge ?_)
  intro v4 W4 ho4 hb4
  have H4 := hid (H3.out.app (Z := vint r.epoch) (by simpa using ho4) hb4 (by have := HL2.out; have := HN2.out; simp; omega))
  have R4 := hid (H4.out.box.ri HVV.out.u8)
  have HPL := hid HVV.out.len
  clear ho4 hb4 H3 R3
  generalize hA4 : A2 ++ vint r.epoch = A4 at *
  have HA4 := hid hA4
  have HN4 : Hid (A4.length ≤ 22) := by show _ ≤ _; rw [← hA4]; have := HL2.out; have := HN2.out; simp; omega
  clear hA4
  go_wp2_with (at_builtin; refine own_app _ rfl _ _ rfl (w.heap.size + 1) _ A4 rfl H4.out.own (some ⟨w.heap.size, 2, none⟩) 32 r.prev (by rw [HPL.out]; rfl) R4.out (by have := HPL.out; have := HN4.out; omega) H4.out.ge ?_)
  intro v5 W5 ho5 hb5
  have H5 := hid (H4.out.app (Z := r.prev) (by simpa using ho5) hb5 (by have := HPL.out; have := HN4.out; simp; omega))
  clear ho5 hb5 H4 R4
  have HA5 : Hid (A4 ++ r.prev = wrH r) := by show _ = _; rw [← HA4.out, ← HA2.out]; rfl
  have HN5 : Hid ((wrH r).length ≤ 54) := by show _ ≤ _; rw [← HA5.out]; have := HPL.out; have := HN4.out; simp; omega
  rw [HA5.out] at H5
  clear HA5 HA4 HA2 HN4 HN2 HL1 HL2
  have c34 := H5.out.box.c34
  have c35 := H5.out.box.c35
  have c36 := H5.out.box.c36
  have hmost : r.path.size ≤ 9223372036854775807 := by have := HVV.out.path; unfold maxLen at this; omega
  by_cases h1 : r.kind = 1
  · have HKL : Hid (wrB r = wrH r ++ [r.site]) := by show _ = _; unfold wrB; rw [if_pos h1]
    have hst : 0 ≤ r.site ∧ r.site ≤ 1 := by
      have := HKB.out
      unfold kindB at this
      rw [if_pos h1] at this
      simp only [Bool.and_eq_true, decide_eq_true_eq] at this
      omega
    have hst0 := hst.1
    have hst1 := hst.2
    rw [h1] at c34
    have H6 := hid (H5.out.later (bel_alc W5 (.cells #[.int .u8 r.site] 5)))
    have R6 := hid (ri_one W5 r.site (by omega))
    clear hst h1
    go_wp2_with (at_builtin; refine own_app _ rfl _ _ rfl (w.heap.size + 1) _ (wrH r) rfl H6.out.own (some ⟨W5.heap.size, 0, none⟩) 1 [r.site] rfl R6.out (by have := HN5.out; simp; omega) H6.out.ge ?_)
    intro v7 W7 ho7 hb7
    have H7 := hid (H6.out.app (Z := [r.site]) (by simpa using ho7) hb7 (by have := HN5.out; simp; omega))
    clear ho7 hb7
    go_wp2
    go_ret2
    exact ⟨_, rfl, H7.out.bel, .inr ⟨rfl, by rw [HKL.out]; exact own_base H7.out.own (Nat.le_succ _)⟩⟩
  · have hpb : pathB r.path = true ∧ (r.kind = 2 → (sizO r.ps).2 = 0) := by
      have := HKB.out
      unfold kindB at this
      rw [if_neg h1] at this
      rcases hki with q | q | q
      · exact absurd q h1
      · rw [q] at this; simp at this; exact ⟨this.1.2, fun _ => this.2⟩
      · rw [q] at this; simp at this; exact ⟨this.2.1.2, fun e => by omega⟩
    have hpz : r.path.size ≤ 255 := by
      have := hpb.1
      unfold pathB at this
      simp only [Bool.and_eq_true, decide_eq_true_eq] at this
      omega
    have H6 := hid (H5.out.later (bel_alc W5 (.cells #[.int .u8 (r.path.size : Int)] 5)))
    have R6 := hid (ri_one W5 (r.path.size : Int) (by omega))
    have HPB := hid hpb
    clear hpb
    go_wp2_with (at_builtin; refine own_app _ rfl _ _ rfl (w.heap.size + 1) _ (wrH r) rfl H6.out.own (some ⟨W5.heap.size, 0, none⟩) 1 [(r.path.size : Int)] rfl R6.out (by have := HN5.out; simp; omega) H6.out.ge ?_)
    intro v7 W7 ho7 hb7
    have H7 := hid (H6.out.app (Z := [(r.path.size : Int)]) (by simpa using ho7) hb7 (by have := HN5.out; simp; omega))
    clear ho7 hb7 H6 R6 H5 c34 c35 c36
    have c36 := H7.out.box.c36
    generalize hA7 : wrH r ++ [(r.path.size : Int)] = A7 at *
    have HA7 := hid hA7
    have HN7 : Hid (A7.length ≤ 55) := by show _ ≤ _; rw [← hA7]; have := HN5.out; simp; omega
    clear hA7
    obtain ⟨i0, hi, hz0, hz1, hz2⟩ := info_parts Tryd.info5W
    go_wp2_with (at_builtin; refine wpList_append_own_string _ rfl _ _ 22 9 rfl (w.heap.size + 1) 5 i0 Tryd.underlying22 Tryd.underlying9 hi hz0 hz1 hz2 _ A7.length (A7.map (Value.int .u8)) rfl H7.out.own r.path rfl (by have := HN7.out; unfold maxLen; omega) (by have := HN7.out; omega) H7.out.ge ?_)
    intro v8 W8 ho8 hg8 _
    have hb8 : Below (w.heap.size + 1) W7 W8 := (Below.refl _ W7).grown hg8 H7.out.ge (fun j hj => (H7.out.own.lt j hj).1)
    have ho8' : W8.ownsRow (w.heap.size + 1) 5 1 v8 (A7 ++ pathL r.path).length ((A7 ++ pathL r.path).map (Value.int .u8)) := by
      rw [pathL_cells] at ho8
      rw [List.length_append, pathL_len, List.map_append]
      exact ho8
    have H8 := hid (H7.out.app (Z := pathL r.path) ho8' hb8 (by have := HN7.out; rw [List.length_append, pathL_len]; omega))
    have HN8 : Hid ((A7 ++ pathL r.path).length ≤ 310) := by show _ ≤ _; have := HN7.out; rw [List.length_append, pathL_len]; omega
    clear ho8 ho8' hg8 hb8 H7 c36
    have c34 := H8.out.box.c34
    have c37 := H8.out.box.c37
    by_cases h2 : r.kind = 2
    · have HKL : Hid (wrB r = (A7 ++ pathL r.path) ++ pcsB r.ps) := by show _ = _; unfold wrB; rw [if_neg h1, if_pos h2, HA7.out]
      have hsz := HPB.out.2 h2
      have hsz2 : r.ps.length ≤ 4096 ∧ r.ps.all nOk = true := by
        unfold sizO at hsz
        split at hsz
        · cases hsz
        · split at hsz
          · exact ⟨by omega, ‹_›⟩
          · cases hsz
      rw [h2] at c34
      have HOK := hid hsz2.2
      have hln := hsz2.1
      have hro := HVV.out.row.room
      have hmo := HVV.out.row.most
      unfold maxLen at hmo
      have HVL := hid (fun V => varr_ri (r.ps.length : Int) V (by omega) (by omega))
      have HL9 := hid (vint10 (r.ps.length : Int))
      have HQ8 := hid H8.out.q
      obtain ⟨len, hle⟩ : ∃ n, n = r.ps.length := ⟨_, rfl⟩
      have HLE := hid hle
      rw [← hle] at c37 hln hro HVL HL9
      clear hsz hsz2 h1 h2 hle H8
      generalize hA8 : A7 ++ pathL r.path = A8 at *
      go_wp2_with fail
      refine (HVL.out _).mono ?_
      rintro _ W9 ⟨a9, c9, rfl, hr9, hb9⟩
      have H9 := hid (HQ8.out.later hb9)
      have R9 := hid hr9
      clear hr9 hb9 HQ8 HVL c34 c37
      go_wp2_with (at_builtin; refine own_app _ rfl _ _ rfl (w.heap.size + 1) _ A8 rfl H9.out.own a9 c9 (vint (len : Int)) rfl R9.out (by have := HL9.out; have := HN8.out; omega) H9.out.ge ?_)
      intro v10 W10 ho10 hb10
      have H10 := hid (H9.out.app (Z := vint (len : Int)) (by simpa using ho10) hb10)
      clear ho10 hb10 H9 R9
      go_wp2
      go_loopw [5, 6] (fun x5 x6 wr => ∃ k : Nat, k ≤ len ∧ x6 = .int .i64 (k : Int) ∧ Hid (Wq w wr r x5 (A8 ++ vint (len : Int) ++ (r.ps.take k).flatMap pcB))) (fun _ x6 _ => len - (RowKit.intOf x6).toNat)
      case atStart => exact ⟨0, by omega, rfl, by show Wq _ _ _ _ _; simpa using H10.out⟩
      case round =>
        obtain ⟨k, hk, rfl, HQ⟩ := hrel
        clear H10
        have c37 := HQ.out.box.c37
        rw [← HLE.out] at c37
        by_cases hlt : k < len
        · have hkz : (k : Int) < (len : Int) := by omega
          have HRW := hid (HVV.out.row.later HQ.out.bel)
          obtain ⟨b, off, hra, hbw, hc⟩ := HRW.out.cells (by rw [← HLE.out]; omega)
          have hrg := (hc k (by rw [← HLE.out]; exact hlt))
          have hok := HRW.out.get (j := k) (by rw [← HLE.out]; exact hlt)
          have hnk : nOk (r.ps.getD k pc0) = true := List.all_eq_true.1 HOK.out _ (by simp [List.getD, List.getElem?_eq_getElem (show k < r.ps.length by rw [← HLE.out]; exact hlt)])
          have HTK := hid (take_pc r.ps k (by rw [← HLE.out]; exact hlt))
          have HFL : Hid ((A8 ++ vint (len : Int) ++ (r.ps.take k).flatMap pcB).length ≤ 180000) := by
            show _ ≤ _
            have h1 := HL9.out
            have h0 := HN8.out
            have h2 := flat_len (r.ps.take k) (fun x hx => (HRW.out.fits x (List.mem_of_mem_take hx)).len)
            have h3 : (r.ps.take k).length ≤ 4096 := by simp; omega
            rw [List.length_append, List.length_append]
            omega
          generalize r.ps.getD k pc0 = x at *
          have hxr := of_decide_eq_true hnk
          have hx1 := hxr.1
          have hx2 := hxr.2
          have hcn : wr.cell? ⟨b, off + k * 33 + 32, none⟩ = some (.int .i64 x.2) := hrg 32 _ (pcC_n hok.len)
          have HDR : Hid (Ri wr .u8 (some ⟨b, off + k * 33, none⟩) 32 x.1) :=
            ⟨by rw [hok.len]; omega, by unfold maxLen; omega, fun _ => ⟨b, off + k * 33, rfl, hbw, fun j hj => by
              rw [hok.len] at hj
              exact hrg j _ (pcC_d hok.len j hj)⟩, hok.u8⟩
          have HXL := hid hok.len
          have HV := hid (fun V => varr_ri x.2 V (by omega) (by omega))
          have HVL := hid (vint10 x.2)
          rw [hra] at c37
          have HRA := hid hra
          generalize hAA : A8 ++ vint (len : Int) ++ (r.ps.take k).flatMap pcB = AA at *
          have HAA := hid hAA
          have HBB : Hid (b < w.heap.size) := by
            obtain ⟨b', off', ha', hb', _⟩ := HVV.out.row.cells (by rw [← HLE.out]; omega)
            rw [hra] at ha'
            injection ha' with ha'
            injection ha' with q1 q2
            show b < _
            omega
          clear hrg hc hok hxr hnk hAA HRW hra
          go_wp2_with fail
          refine (HV.out _).mono ?_
          rintro _ W1 ⟨a1, c1, rfl, hr1, hb1⟩
          have H1 := hid (HQ.out.later hb1)
          have R1 := hid hr1
          have D1 := hid (HDR.out.later hb1)
          clear hr1 hb1 HV HDR HQ hcn c37
          go_wp2_with (at_builtin; refine own_app _ rfl _ _ rfl (w.heap.size + 1) _ AA rfl H1.out.own a1 c1 (vint x.2) rfl R1.out (by have := HFL.out; have := HVL.out; omega) H1.out.ge ?_)
          intro v2 W2 ho2 hb2
          have H2 := hid (H1.out.app (Z := vint x.2) (by simpa using ho2) hb2)
          have D2 : Hid (Ri W2 .u8 (some ⟨b, off + k * 33, none⟩) 32 x.1) := ⟨D1.out.room, D1.out.most, fun h0 => by
            obtain ⟨b', off', e', _, hc'⟩ := D1.out.cells h0
            injection e' with e'
            injection e' with q1 q2
            subst q1 q2
            refine ⟨_, _, rfl, Nat.lt_of_lt_of_le HBB.out (Nat.le_trans (Nat.le_succ _) H2.out.ge), fun j hj => ?_⟩
            rw [hb2.cell (p := ⟨b, off + k * 33 + j, none⟩) (by have := HBB.out; show b < _; omega)]
            exact hc' j hj, D1.out.fits⟩
          have d37 := H2.out.box.c37
          rw [← HLE.out, HRA.out] at d37
          clear ho2 hb2 H1 R1 D1
          go_wp2_with (at_builtin; refine own_app _ rfl _ _ rfl (w.heap.size + 1) _ (AA ++ vint x.2) rfl H2.out.own _ 32 x.1 (by rw [HXL.out]; rfl) D2.out (by have := HFL.out; have := HVL.out; have := HXL.out; rw [List.length_append]; omega) H2.out.ge ?_)
          intro v3 W3 ho3 hb3
          have H3 := hid (H2.out.app (Z := x.1) (by simpa using ho3) hb3)
          clear ho3 hb3 H2 D2 d37
          go_wp2
          go_round
          case rel => exact ⟨k + 1, by omega, by go_num, by show Wq _ _ _ _ _; rw [HTK.out, List.flatMap_append, ← List.append_assoc, HAA.out]; simpa [pcB] using H3.out⟩
          case measure => simp [RowKit.intOf]; omega
        · have hkl : k = len := by omega
          have hkz : ¬ (k : Int) < (len : Int) := by omega
          have HT : Hid (r.ps.take k = r.ps) := List.take_of_length_le (by rw [← HLE.out]; omega)
          have HF : Hid (A8 ++ vint (len : Int) ++ (r.ps.take k).flatMap pcB = wrB r) := by
            show _ = _
            rw [HT.out, HKL.out, List.append_assoc]
            unfold pcsB
            rw [HLE.out]
          rw [HF.out] at HQ
          go_wp2
          go_ret2
          exact ⟨_, rfl, HQ.out.bel, .inr ⟨rfl, own_base HQ.out.own (Nat.le_succ _)⟩⟩
    · have HKL : Hid (wrB r = A7 ++ pathL r.path) := by show _ = _; unfold wrB; rw [if_neg h1, if_neg h2, HA7.out]
      have h3 : r.kind = 3 := by omega
      rw [h3] at c34
      clear h1 h2 h3 c37
      go_wp2
      go_ret2
      exact ⟨_, rfl, H8.out.bel, .inr ⟨rfl, by rw [HKL.out]; exact own_base H8.out.own (Nat.le_succ _)⟩⟩
end Go.Proofs.YtplinkmagnihmaaDoor
