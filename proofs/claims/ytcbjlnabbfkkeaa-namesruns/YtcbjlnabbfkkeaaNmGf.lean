/-
  The document's Digests (37).
-/
import Derived.Test.YtcbjlnabbfkkeaaNmEb
import Derived.Test.YtcbjlnabbfkkeaaNmFe
namespace Go.Proofs.Ytcbjlnabbfkkeaa
open Go.ChangeShapes Go.WideShapes Go.ChangeAt Go.RowKit Go.Deep Go.Lib

def foldD (P : List Pc) (A : List (List Int)) : List (List Int) := P.foldl (fun A p => intoL p.1 A) A
theorem foldD_snoc (P : List Pc) (p : Pc) (A : List (List Int)) : foldD (P ++ [p]) A = intoL p.1 (foldD P A) := by
  unfold foldD
  rw [List.foldl_append]
  rfl
theorem foldD_app (P Q : List Pc) (A : List (List Int)) : foldD (P ++ Q) A = foldD Q (foldD P A) := by
  unfold foldD
  rw [List.foldl_append]
theorem into_len (D : List Int) : ∀ l : List (List Int), (intoL D l).length ≤ l.length + 1 ∧ 0 < (intoL D l).length
  | [] => by simp [intoL]
  | x :: l => by
    have ih := into_len D l
    rw [intoL]
    split
    · simp only [List.length_cons]; omega
    · split <;> simp only [List.length_cons] <;> omega
theorem foldD_len (P : List Pc) : ∀ A : List (List Int), (foldD P A).length ≤ A.length + P.length := by
  induction P with
  | nil => intro A; exact Nat.le_refl _
  | cons p P ih =>
    intro A
    have h1 := ih (intoL p.1 A)
    have h2 := (into_len p.1 A).1
    show (foldD P (intoL p.1 A)).length ≤ _
    rw [List.length_cons]
    omega
theorem flat_take_fi {L : List Fi} {k : Nat} (h : k < L.length) : (L.take (k + 1)).flatMap (·.ps) = (L.take k).flatMap (·.ps) ++ (L.getD k fiZ).ps := by
  rw [List.take_succ_eq_append_getElem h, List.flatMap_append]
  simp [List.getD, List.getElem?_eq_getElem h]
theorem take_pcs {l : List Pc} {k : Nat} (h : k < l.length) : l.take (k + 1) = l.take k ++ [l.getD k pc0] := by
  rw [List.take_succ_eq_append_getElem h]
  simp [List.getD, List.getElem?_eq_getElem h]
theorem flat_most {L : List Fi} (h : ∀ i ∈ L, i.ps.length ≤ 40) : (L.flatMap (·.ps)).length ≤ 40 * L.length := by
  induction L with
  | nil => simp
  | cons x L ih =>
    rw [List.flatMap_cons, List.length_append, List.length_cons]
    have h1 := h x (List.mem_cons_self ..)
    have h2 := ih (fun i hi => h i (List.mem_cons_of_mem _ hi))
    omega
theorem range_pre {w : World} {b o : Nat} {x : Pc} (h : w.rangeAt b o (pcC x)) : w.rangeAt b o (dgC x.1) := fun j v hv => h j v (by
  unfold pcC
  rw [List.getElem?_append_left (by
    have := (List.getElem?_eq_some_iff.1 hv).1
    unfold dgC at this
    exact this)]
  exact hv)
/-- A row of digests on the way: nil while there are none. -/
structure Rn (w : World) (a : Option Addr) (cap : Nat) (A : List (List Int)) : Prop where
  row : Rw 32 dgC [] w a cap A
  z : A.length = 0 → a = none ∧ cap = 0
  len : ∀ x ∈ A, x.length = 32
set_option maxHeartbeats 12800000 in
set_option maxRecDepth 100000 in
theorem ddigests_word (W : World) (d : Nat) (a : Option Addr) (cap : Nat) (L : List Fi) (h : Dn W d a cap L) (hL : L.length ≤ 1024) (hP : ∀ i ∈ L, i.ps.length ≤ 40) :
    Calls Try.prog 37 #[.pointer (some ⟨d, 0, none⟩)] W fun e w' => ∃ a' cap', e = .returned (.slice a' (digL L).length cap') ∧ Rw 32 dgC [] w' a' cap' (digL L) ∧ (∀ x ∈ digL L, x.length = 32) ∧ Below W.heap.size W w' := by
  have HD := hid h
  have HP := hid hP
  obtain ⟨n, hn⟩ : ∃ n, n = L.length := ⟨_, rfl⟩
  have HN := hid hn
  have hn1 : n ≤ 1024 := by rw [hn]; exact hL
  have hblk := h.blk
  rw [← hn] at hblk
  have HCD := hid (fun X (hX : Below W.heap.size W X) => (Joins.cell_of_block (blk_later hblk hX) 0).trans (show _ = some (Value.slice a n cap) from rfl))
  have hnc : n ≤ cap := by rw [hn]; exact h.fs.row.room
  have HDG : Hid (digL L = foldD ((L.take n).flatMap (·.ps)) []) := by show _ = _; rw [hn, List.take_length]; rfl
  rw [HDG.out]
  clear h hL hn hblk hP
  go_enter Try.func37, Try.ntmps37
  go_wp2
  go_loopw [3, 4] (fun x3 x4 wr => ∃ (k : Nat) (a3 : Option Addr) (c3 : Nat), k ≤ n ∧ x4 = .int .i64 (k : Int) ∧ x3 = .slice a3 (foldD ((L.take k).flatMap (·.ps)) []).length c3 ∧ Hid (Rn wr a3 c3 (foldD ((L.take k).flatMap (·.ps)) [])) ∧ Hid (Below W.heap.size W wr)) (fun _ x4 _ => n - (intOf x4).toNat)
  case atStart => exact ⟨0, none, 0, by omega, rfl, rfl, ⟨Rw.nil _, (fun _ => ⟨rfl, rfl⟩), (fun x hx => by cases hx)⟩, Below.refl _ _⟩
  case round =>
    obtain ⟨k, a3, c3, hk, rfl, rfl, HR, HB⟩ := hrel
    have cd := HCD.out _ HB.out
    by_cases hkn : k < n
    · have hkz : (k : Int) < (n : Int) := by omega
      obtain ⟨x, hx⟩ : ∃ x, x = L.getD k fiZ := ⟨_, rfl⟩
      have hkl : k < L.length := by rw [← HN.out]; exact hkn
      obtain ⟨b, o, ha, hrp, _, _, _, hcx⟩ := fi_cells HD.out.fs (i := k) hkl hx
      subst ha
      have HXM : x ∈ L := by rw [hx]; simp [List.getD, List.getElem?_eq_getElem hkl]
      have HX4 := hid (HP.out x HXM)
      have HFT := hid (flat_take_fi hkl)
      rw [← hx] at HFT
      have HRP := hid hrp
      have HL0 : Hid ((foldD ((L.take k).flatMap (·.ps)) []).length ≤ 40960) := by
        have h1 := foldD_len ((L.take k).flatMap (·.ps)) []
        have h2 := flat_most (L := L.take k) (fun i hi => HP.out i (List.mem_of_mem_take hi))
        have h3 : (L.take k).length ≤ k := List.length_take_le ..
        show _ ≤ _
        simp only [List.length_nil, Nat.zero_add] at h1
        omega
      obtain ⟨m, hm⟩ : ∃ m, m = x.ps.length := ⟨_, rfl⟩
      have HM := hid hm
      have hm40 : m ≤ 40 := by rw [hm]; exact HX4.out
      have HCX := hid (fun X (hX : Below W.heap.size W X) => (hcx X hX).trans (show _ = some (Value.slice x.a m x.cap) from by rw [hm]))
      have hroom : m ≤ x.cap := by rw [hm]; exact hrp.room
      obtain ⟨xa, hxa⟩ : ∃ xa, xa = x.a := ⟨_, rfl⟩
      have HXA := hid hxa
      rw [← hxa] at HCX
      obtain ⟨A0, hA0⟩ : ∃ A0, A0 = foldD ((L.take k).flatMap (·.ps)) [] := ⟨_, rfl⟩
      have HA0 := hid hA0
      rw [← hA0] at HR HL0 ⊢
      have HFF : Hid (∀ j, j ≤ m → (foldD (x.ps.take j) A0).length ≤ 50000) := fun j hj => by
        have h1 := foldD_len (x.ps.take j) A0
        have h2 := HL0.out
        have h3 := HX4.out
        rw [List.length_take] at h1
        omega
      clear hx hcx hrp HXM hm hxa hA0
      go_wp2
      go_loopw [3, 5] (fun x3 x5 wr2 => ∃ (j : Nat) (a4 : Option Addr) (c4 : Nat), j ≤ m ∧ x5 = .int .i64 (j : Int) ∧ x3 = .slice a4 (foldD (x.ps.take j) A0).length c4 ∧ Hid (Rn wr2 a4 c4 (foldD (x.ps.take j) A0)) ∧ Hid (Below W.heap.size W wr2)) (fun _ x5 _ => m - (intOf x5).toNat)
      case atStart => exact ⟨0, a3, c3, by omega, rfl, rfl, HR.out, HB.out⟩
      case round =>
        obtain ⟨j, a4, c4, hj, rfl, rfl, HR2, HB2⟩ := hrel
        clear cd HR
        have cd := HCD.out _ HB2.out
        have cx := HCX.out _ HB2.out
        by_cases hjm : j < m
        · have hjz : (j : Int) < (m : Int) := by omega
          have hjl : j < x.ps.length := by rw [← HM.out]; exact hjm
          obtain ⟨pb, po, hab, hbw, hc⟩ := HRP.out.cells (by omega)
          rw [← HXA.out] at hab
          subst hab
          have HRR : Hid (wr.rangeAt pb (po + j * 33) (dgC (x.ps.getD j pc0).1)) := range_pre (range_later (hc j hjl) HB2.out hbw)
          have HOK : Hid (PcOk (x.ps.getD j pc0)) := HRP.out.fits _ (by simp [List.getD, List.getElem?_eq_getElem hjl])
          have HTM : Hid (foldD (x.ps.take (j + 1)) A0 = intoL (x.ps.getD j pc0).1 (foldD (x.ps.take j) A0)) := by show _ = _; rw [take_pcs hjl, foldD_snoc]
          obtain ⟨p, hp⟩ : ∃ p, p = x.ps.getD j pc0 := ⟨_, rfl⟩
          rw [← hp] at HRR HOK HTM
          have HDL : Hid ((dgC p.1).length = 32) := by show _ = _; unfold dgC; rw [List.length_map]; exact HOK.out.len
          have HF5 := hid (HFF.out j hj)
          clear hc hp
          go_wp2_with (first | refine wpList_load_P rfl 32 _ rfl pb (po + j * 33) rfl (dgC p.1) _ HRR.out Try.underlying32 rfl (by rw [HDL.out]; exact Try.size32') ?_ | fail)
          refine (into_any wr a4 c4 (foldD (x.ps.take j) A0) HR2.out.row HR2.out.z HR2.out.len (Nat.le_trans HF5.out (by decide)) p.1 HOK.out.len).mono ?_
          rintro _ w5 ⟨a5, c5, rfl, hr5, hb5⟩
          rw [← HTM.out] at hr5 ⊢
          have HR5 : Hid (Rn w5 a5 c5 (foldD (x.ps.take (j + 1)) A0)) := ⟨hr5, (fun h0 => by
            rw [HTM.out] at h0
            have := (into_len p.1 (foldD (x.ps.take j) A0)).2
            omega), (fun y hy => by
            rw [HTM.out] at hy
            rcases (into_mem p.1 _ y).1 hy with rfl | hy
            · exact HOK.out.len
            · exact HR2.out.len y hy)⟩
          have HB5 := hid (Bn HB2.out hb5)
          clear hr5 hb5 HR2 HB2 cd cx
          go_wp2
          go_roundw
          case rel => exact ⟨j + 1, a5, c5, by omega, by go_num, rfl, HR5.out, HB5.out⟩
          case measure => simp [intOf]; omega
        · have hje : j = m := by omega
          have hjz : ¬ (j : Int) < (m : Int) := by omega
          have HTK : Hid (foldD (x.ps.take j) A0 = foldD ((L.take (k + 1)).flatMap (·.ps)) []) := by
            show _ = _
            rw [List.take_of_length_le (by rw [← HM.out]; omega), HFT.out, foldD_app, HA0.out]
          rw [HTK.out] at HR2
          rw [HTK.out]
          go_wp2
          go_roundw
          case rel => exact ⟨k + 1, a4, c4, by omega, by go_num, rfl, HR2.out, HB2.out⟩
          case measure => simp [intOf]; omega
    · have hke : k = n := by omega
      have hkz : ¬ (k : Int) < (n : Int) := by omega
      subst hke
      go_wp2
      go_ret
      exact ⟨a3, c3, rfl, HR.out.row, HR.out.len, HB.out⟩
end Go.Proofs.Ytcbjlnabbfkkeaa
