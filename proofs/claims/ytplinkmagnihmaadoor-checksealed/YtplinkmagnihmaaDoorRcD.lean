/-
  A record's bytes: the contracts of record's writtenPieces, written, Bytes.
-/
import Derived.Test.YtplinkmagnihmaaDoorRcC
namespace Go.Proofs.YtplinkmagnihmaaDoor
open Go.ChangeShapes Go.WideShapes Go.ChangeAt Go.RowKit Go.Deep

def pcB (x : Pc) : List Int := vint x.2 ++ x.1
def pcsB (l : List Pc) : List Int := vint (l.length : Int) ++ l.flatMap pcB
theorem vint10 (x : Int) : (vint x).length ≤ 10 := by
  have : ∀ f (y : Int), (vintL f y).length ≤ f + 1 := by
    intro f
    induction f with
    | zero => intro y; unfold vintL; simp
    | succ f ih =>
      intro y
      unfold vintL
      split
      · simp
      · simp only [List.length_cons]; have := ih (y / 128); omega
  exact this 9 x
theorem flat_len (l : List Pc) (h : ∀ x ∈ l, x.1.length = 32) : (l.flatMap pcB).length ≤ 42 * l.length := by
  induction l with
  | nil => simp
  | cons x l ih =>
    have h1 := h x (by simp)
    have h2 := ih (fun y hy => h y (by simp [hy]))
    have := vint10 x.2
    simp only [List.flatMap_cons, List.length_append, List.length_cons, pcB]
    omega
theorem Ri.grown {w w' : World} {kd : IntKind} {a : Option Addr} {cap : Nat} {zs : List Int} {row : Option Nat} (h : Ri w kd a cap zs) (hg : w.grownBy w' row) (hne : ∀ b off, a = some ⟨b, off, none⟩ → some b ≠ row) : Ri w' kd a cap zs := by
  refine ⟨h.room, h.most, fun h0 => ?_, h.fits⟩
  obtain ⟨b, off, ha, hb, hc⟩ := h.cells h0
  have hk : ∀ j, j < zs.length → w'.cell? ⟨b, off + j, none⟩ = some (.int kd (zs.getD j 0)) := fun j hj => hg.cell (hc j hj) (hne b off ha)
  exact ⟨b, off, ha, cell_lt (hk 0 h0), hk⟩
set_option maxHeartbeats 3200000 in
set_option maxRecDepth 100000 in
theorem pieces_word (a : Option Addr) (cap : Nat) (l : List Pc) (w : World) (hr : Rp w a cap l) (hn : l.length ≤ 4096) (hok : l.all nOk = true) :
    Calls Tryd.prog 82 #[.slice a l.length cap] w fun e w' => ∃ v, e = .returned v ∧ w'.ownsRow w.heap.size 5 1 v (pcsB l).length ((pcsB l).map (Value.int .u8)) ∧ Below w.heap.size w w' := by
  have hroom := hr.room
  have hmost := hr.most
  unfold maxLen at hmost
  have HR := hid hr
  have HOK := hid hok
  obtain ⟨len, hle⟩ : ∃ n, n = l.length := ⟨_, rfl⟩
  have HL := hid hle
  have HV := hid (var_word (len : Int) w (by omega) (by omega))
  rw [← hle] at hn hroom ⊢
  clear hr hle hok
  go_enter Tryd.func82, Tryd.ntmps82
  go_wp2_with fail
  refine HV.out.mono ?_
  rintro _ W0 ⟨v0, rfl, ho0, hb0⟩
  have HO0 := hid ho0
  have HB0 := hid hb0
  clear ho0 hb0 HV
  go_wp2
  go_loopw [3, 12] (fun x3 x12 wr => ∃ k : Nat, k ≤ len ∧ x12 = .int .i64 (k : Int) ∧ Hid (wr.ownsRow w.heap.size 5 1 x3 (vint (len : Int) ++ (l.take k).flatMap pcB).length ((vint (len : Int) ++ (l.take k).flatMap pcB).map (Value.int .u8))) ∧ Hid (Below w.heap.size w wr)) (fun _ x12 _ => len - (intOf x12).toNat)
  case atStart => exact ⟨0, by omega, rfl, by show World.ownsRow _ _ _ _ _ _ _; simpa using HO0.out, HB0.out⟩
  case round =>
    obtain ⟨k, hk, rfl, HO, HB⟩ := hrel
    by_cases hlt : k < len
    · have hkz : (k : Int) < (len : Int) := by omega
      obtain ⟨b, off, rfl, hbw, hc⟩ := HR.out.cells (by rw [← HL.out]; omega)
      have hrg := (hc k (by rw [← HL.out]; exact hlt))
      have HRG : Hid (wr.rangeAt b (off + k * 33) (pcC (l.getD k pc0))) := fun j v hv => (HB.out.cell (p := ⟨b, off + k * 33 + j, none⟩) hbw).trans (hrg j v hv)
      have hok := HR.out.get (j := k) (by rw [← HL.out]; exact hlt)
      have hnk : nOk (l.getD k pc0) = true := List.all_eq_true.1 HOK.out _ (by simp [List.getD, List.getElem?_eq_getElem (show k < l.length by rw [← HL.out]; exact hlt)])
      have HTK := hid (take_pc l k (by rw [← HL.out]; exact hlt))
      have HFL : Hid ((vint (len : Int) ++ (l.take k).flatMap pcB).length ≤ 180000) := by
        show _ ≤ _
        have h1 := vint10 (len : Int)
        have h2 := flat_len (l.take k) (fun x hx => (HR.out.fits x (List.mem_of_mem_take hx)).len)
        have h3 : (l.take k).length ≤ 4096 := by simp; omega
        rw [List.length_append]
        omega
      generalize hx : l.getD k pc0 = x at *
      have hxr := of_decide_eq_true hnk
      have hx1 := hxr.1
      have hx2 := hxr.2
      have HLP := hid (pcC_len hok.len)
      have HE : Hid ((wr.alloc (.cells (pcC x).toArray 80)).heap[wr.heap.size]? = some (.cells (pcC x).toArray 80)) := heap_alc _ _
      have hcn : (wr.alloc (.cells (pcC x).toArray 80)).cell? ⟨wr.heap.size, 32, none⟩ = some (.int .i64 x.2) := (Joins.cell_of_block HE.out 32).trans (by rw [List.getElem?_toArray]; exact pcC_n hok.len)
      have HB1 := hid (bel_alc wr (.cells (pcC x).toArray 80))
      have HDR : Hid (Ri (wr.alloc (.cells (pcC x).toArray 80)) .u8 (some ⟨wr.heap.size, 0, none⟩) 32 x.1) :=
        ⟨by rw [hok.len]; omega, by unfold maxLen; omega, fun _ => ⟨wr.heap.size, 0, rfl, by simp, fun j hj => by
          rw [hok.len] at hj
          rw [Nat.zero_add]
          exact (Joins.cell_of_block HE.out j).trans (by rw [List.getElem?_toArray]; exact pcC_d hok.len j hj)⟩, hok.u8⟩
      have HXL := hid hok.len
      have HV := hid (fun V => varint_ri x.2 V (by omega) (by omega))
      have HVL := hid (vint10 x.2)
      generalize hA : vint (len : Int) ++ (l.take k).flatMap pcB = A at *
      have HA := hid hA
      clear hrg hc hok hxr hnk hA hx HE
      go_wp2_with (first | refine wpList_load_mid rfl 80 _ rfl b (off + k * 33) rfl (pcC x) _ HRG.out Tryd.underlying80 rfl (by rw [HLP.out]; exact Tryd.size80) ?_ | refine wpList_alloc_at rfl 80 rfl (some 5) rfl _ Tryd.zero80 wr.heap.size rfl ?_ | refine wpList_store_new rfl 80 _ _ rfl rfl wr pcZ (pcC x).toArray rfl rfl rfl (by rw [List.size_toArray, HLP.out]; exact Tryd.size80) (pcZ_size HLP.out) (all_oneCell_toArray (pcC_one x)) ?_ | fail)
      refine (HV.out _).mono ?_
      rintro _ W1 ⟨a1, c1, rfl, hr1, hb1⟩
      have HB2 := hid (Bn HB1.out hb1)
      have HO1 := hid (own_later HO.out HB2.out)
      have HR1 := hid hr1
      have HS1 : Hid (w.heap.size ≤ W1.heap.size) := Nat.le_trans HB.out.size HB2.out.size
      have HDR1 := hid (HDR.out.later hb1)
      have HBW := hid (Bn HB.out HB2.out)
      have HNE : Hid (∀ b off, (some (⟨wr.heap.size, 0, none⟩ : Addr)) = some ⟨b, off, none⟩ → some b ≠ u3.ownBlock) := fun b off e q => by
        injection e with e
        injection e with e1
        have := (HO.out.lt b q.symm).2
        omega
      clear hr1 hb1 HV HDR HB1 HB2 HO hcn
      go_wp2_with (at_builtin; refine app_any _ rfl _ _ rfl w.heap.size _ A rfl HO1.out a1 c1 (vint x.2) rfl HR1.out (by have := HFL.out; have := HVL.out; omega) HS1.out ?_)
      intro v2 W2 ho2 hg2
      have HO2 := hid (show W2.ownsRow w.heap.size 5 1 v2 (A ++ vint x.2).length ((A ++ vint x.2).map (Value.int .u8)) by simpa using ho2)
      have HD2 : Hid (Ri W2 .u8 (some ⟨wr.heap.size, 0, none⟩) 32 x.1) := HDR1.out.grown hg2 HNE.out
      have HBW2 : Hid (Below w.heap.size W1 W2) := (Below.refl _ W1).grown hg2 HS1.out (fun j hj => (HO1.out.lt j hj).1)
      have HS2 : Hid (w.heap.size ≤ W2.heap.size) := Nat.le_trans HS1.out HBW2.out.size
      clear ho2 hg2 HO1 HR1 HDR1 HNE
      go_wp2_with (at_builtin; refine app_any _ rfl _ _ rfl w.heap.size _ (A ++ vint x.2) rfl HO2.out _ 32 x.1 (by rw [HXL.out]; rfl) HD2.out (by have := HFL.out; have := HVL.out; have := HXL.out; rw [List.length_append]; omega) HS2.out ?_)
      intro v3 W3 ho3 hg3
      have HO3 := hid (show W3.ownsRow w.heap.size 5 1 v3 (A ++ pcB x).length ((A ++ pcB x).map (Value.int .u8)) by simpa [pcB, Nat.add_assoc] using ho3)
      have HB3 : Hid (Below w.heap.size w W3) := (HBW.out.trans HBW2.out).trans ((Below.refl _ W2).grown hg3 HS2.out (fun j hj => (HO2.out.lt j hj).1))
      clear ho3 hg3 HO2 HD2 HBW2 HBW
      go_wp2
      go_round
      case rel => exact ⟨k + 1, by omega, by go_num, by rw [HTK.out, List.flatMap_append, ← List.append_assoc, HA.out]; show World.ownsRow _ _ _ _ _ _ _; simpa using HO3.out, HB3.out⟩
      case measure => simp [intOf]; omega
    · have hkl : k = len := by omega
      subst hkl
      have HT : Hid (l.take k = l) := List.take_of_length_le (by rw [HL.out]; exact Nat.le_refl _)
      rw [HT.out] at HO
      have HO2 : Hid (wr.ownsRow w.heap.size 5 1 u3 (pcsB l).length ((pcsB l).map (Value.int .u8))) := by
        have := HO.out
        show World.ownsRow _ _ _ _ _ _ _
        unfold pcsB
        rw [← HL.out]
        exact this
      clear HO
      go_wp2
      go_ret
      exact ⟨_, rfl, HO2.out, HB.out⟩
end Go.Proofs.YtplinkmagnihmaaDoor
