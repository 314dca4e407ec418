/-
  MacBack: for every key and all bytes, what is sealed is opened, and with any byte of its MAC changed it is refused with ErrMac; where the program's tables are as its text lays them.
-/
import Derived.Test.YtkipepodgmfbnabDoorCut
import Derived.Test.YtkipepodgmfbnabDoorOpen
namespace Go.Proofs.YtkipepodgmfbnabDoor.macBack
open Go.ChangeShapes Go.WideShapes Go.ChangeAt Go.RowKit Sha

theorem own_set {w : World} {B g n c : Nat} {l : List Nat} (h : w.ownsRow B 5 1 (.slice (some ⟨g, 0, none⟩) n c) n (V l)) (k y : Nat) (hk : k < n) :
    (w.setCell ⟨g, k, none⟩ (.int .u8 (y : Int))).ownsRow B 5 1 (.slice (some ⟨g, 0, none⟩) n c) n (V (l.set k y)) ∧ w.cell? ⟨g, k, none⟩ = some (.int .u8 ((l.getD k 0 : Nat) : Int)) ∧ w.frozen? ⟨g, k, none⟩ = false ∧ B ≤ g ∧ g < w.heap.size := by
  have h' := h
  obtain ⟨h1, h2⟩ := h
  have hll : l.length = n := by simpa [V] using h1
  rcases h2 with ⟨h3, _⟩ | ⟨g', cp, cur, hv, hB, hh, hn, hcap, hcs, htk⟩
  · cases h3
  · injection hv with e1 e2 e3
    injection e1 with e1
    injection e1 with e1
    subst e1 e3
    have hg : g < w.heap.size := (Array.getElem?_eq_some_iff.1 hh).1
    refine ⟨⟨by simp [V, hll], Or.inr ⟨g, c, cur.setIfInBounds k (.int .u8 (y : Int)), rfl, hB, ?_, hn, hcap, by simp [hcs], ?_⟩⟩, ?_, Joins.unfrozen_of_block hh k, hB, hg⟩
    · rw [Joins.block_setCell hh]
    · rw [Array.toList_setIfInBounds, List.take_set, htk]
      simp [V, List.map_set]
    · rw [h'.cellAt k (by omega)]
      simp [V, List.getD, List.getElem?_eq_getElem (show k < l.length by omega)]

theorem rd_any {w : World} {B : Nat} {v : Value} {l : List Nat} {n : Nat} (hown : w.ownsRow B 5 1 v n (V l)) (hn : l.length = n) (hz : ∀ j, l.getD j 0 < 256) :
    ∃ a c, v = .slice a n c ∧ Rd w (.slice a n c) a c l := by
  subst hn
  have h' := hown
  rcases hown.2 with ⟨h0, h1⟩ | ⟨g, cp, cur, hv, hg, hh, hn, hcap, _, _⟩
  · refine ⟨none, 0, by rw [h0, h1], rfl, by omega, by unfold maxLen; omega, fun h => by omega, hz, fun _ => rfl⟩
  · subst hv
    refine ⟨_, cp, rfl, rfl, hn, hcap, fun _ => ⟨g, 0, rfl, (Array.getElem?_eq_some_iff.1 hh).1, fun j hj => ?_⟩, hz, fun h => by cases h⟩
    rw [Nat.zero_add, h'.cellAt j (by omega)]
    simp [V, List.getD, List.getElem?_eq_getElem hj]

theorem xor_ne (a x : Nat) (hx : x ≠ 0) : a ^^^ x ≠ a := by
  intro h
  have : a ^^^ (a ^^^ x) = a ^^^ a := by rw [h]
  rw [← Nat.xor_assoc, Nat.xor_self, Nat.zero_xor] at this
  exact hx this
theorem eqB_changed (m : List Nat) (hm : m.length = 32) (j x : Nat) (hj : j < 32) (hx : x ≠ 0) : eqB 32 m (m.set j (m.getD j 0 ^^^ x)) = false := by
  cases h : eqB 32 m (m.set j (m.getD j 0 ^^^ x)) with
  | false => rfl
  | true =>
    have := List.all_eq_true.1 h j (List.mem_range.2 hj)
    rw [beq_iff_eq] at this
    rw [show (m.set j (m.getD j 0 ^^^ x)).getD j 0 = m.getD j 0 ^^^ x from by rw [List.getD, List.getElem?_set_self (by omega), Option.getD_some]] at this
    exact absurd this.symm (xor_ne _ _ hx)

theorem open_at (a : Option Addr) (cap : Nat) (key : List Nat) (g c : Nat) (q : List Nat) (n : Nat) (w : World) (hl : Laid w) (hr : Rd w (.slice a key.length cap) a cap key) (hrd : Rd w (.slice (some ⟨g, 0, none⟩) (n + 32) c) (some ⟨g, 0, none⟩) c q) (hk : key.length ≤ 3000) (hz : n + 32 ≤ 3000) (hq : q.length = n + 32) :
    Calls Tryd.prog 8 #[.slice a key.length cap, .slice (some ⟨g, 0, none⟩) (n + 32) c] w fun e w' => ((eqB 32 (hmac key (q.take n)) (q.drop n) = true ∧ ∃ v, e = .returned (.tuple #[v, .int .i64 0]) ∧ w'.ownsRow w.heap.size 5 1 v n (V (q.take n))) ∨ (eqB 32 (hmac key (q.take n)) (q.drop n) = false ∧ e = .returned (.tuple #[.slice none 0 0, .int .i64 40]))) ∧ Below w.heap.size w w' := by
  have h := open_long a cap key (some ⟨g, 0, none⟩) c q n w hl hr (by rw [hq]; exact hrd) hk (by omega) hq
  rw [hq] at h
  exact h

set_option maxHeartbeats 400000 in
set_option maxRecDepth 100000 in
theorem walk (a : Option Addr) (cap : Nat) (ks : List Nat) (b : Option Addr) (capb : Nat) (zs : List Nat) (at_ x : Nat) (W : World) (hl : Laid W) (hr : Rd W (.slice a ks.length cap) a cap ks) (hrb : Rd W (.slice b zs.length capb) b capb zs) (hat : at_ < 256) (hx : x < 256) :
    Calls Tryd.prog 3 #[.slice a ks.length cap, .slice b zs.length capb, .int .u8 (at_ : Int), .int .u8 (x : Int)] W fun e w' => e = .returned (.bool true) ∧ Below W.heap.size W w' := by
  have HAW := hid (awake_any W hl)
  have HC1 := hid (fun (w : World) (h : Below W.heap.size W w) => cut_row a cap ks w (hr.later h))
  have HC2 := hid (fun (w : World) (h : Below W.heap.size W w) => cut_row b capb zs w (hrb.later h))
  have HR := hid (hr.take 2000)
  have HRB := hid (hrb.take 2000)
  have hkl := take_len ks
  have hzl := take_len zs
  have HL := hid hl
  clear hr hrb hl
  generalize ks.take 2000 = key at *
  generalize zs.take 2000 = z at *
  have HSE := hid (fun (w : World) (h : Below W.heap.size W w) => seal_word a cap key b capb z w (HL.out.later h) (HR.out.later h) (HRB.out.later h) (by omega) (by omega))
  have HOP := hid (fun (w : World) (h : Below W.heap.size W w) (g c : Nat) (q : List Nat) (hq : q.length = z.length + 32) (hrd : Rd w (.slice (some ⟨g, 0, none⟩) (z.length + 32) c) (some ⟨g, 0, none⟩) c q) => open_at a cap key g c q z.length w (HL.out.later h) (HR.out.later h) hrd (by omega) (by omega) hq)
  have HML := hid (hmac_length key z)
  have HMT := hid (hmac_lt key z)
  have HZT := hid HRB.out.hi
  have HZX := hid (fun (w : World) (h : Below W.heap.size W w) => HRB.out.text w h)
  go_enter Tryd.func3, Tryd.ntmps3
  go_wp2_with fail
  go_at_call 5
  refine HAW.out.mono ?_
  rintro _ w1 ⟨rfl, hb1⟩
  have HB1 := hid hb1
  clear hb1 HAW
  go_wp2_with fail
  go_at_call 6
  refine (HC1.out w1 HB1.out).mono ?_
  rintro _ w2 ⟨rfl, hw⟩
  obtain rfl := hw.symm
  clear hw
  go_wp2_with fail
  go_at_call 6
  refine (HC2.out w1 HB1.out).mono ?_
  rintro _ w2 ⟨rfl, hw⟩
  obtain rfl := hw.symm
  clear hw HC1 HC2
  go_wp2_with fail
  go_at_call 7
  refine (HSE.out w1 HB1.out).mono ?_
  rintro _ w2 ⟨v2, rfl, ho2, hb2⟩
  have hsl : (z ++ hmac key z).length = z.length + 32 := by rw [List.length_append, HML.out]
  obtain ⟨g2, c2, hv2, hg1, hrd2⟩ := rd_own ho2 (by omega) (getD_app _ _ HZT.out HMT.out)
  rw [hv2, hsl] at hrd2
  rw [hsl] at hv2 ho2
  subst hv2
  have HB2 := hid (Bn HB1.out hb2)
  have ht2 : (z ++ hmac key z).take z.length = z := List.take_left
  have hd2 : (z ++ hmac key z).drop z.length = hmac key z := List.drop_left
  have hop2 := HOP.out w2 HB2.out g2 c2 _ hsl hrd2
  rw [ht2, hd2, eqB_same] at hop2
  have HO2 := hid ho2
  have HOP2 := hid hop2
  have hz1 := HB1.out.size
  clear ho2 hrd2 hop2 hb2 HSE
  generalize hzn : z.length = zn at *
  have HZN := hid hzn
  clear hzn
  generalize key.length = kn at *
  go_wp2_with fail
  go_at_call 8
  refine HOP2.out.mono ?_
  rintro _ w3 ⟨h3, hb3⟩
  rcases h3 with ⟨_, v3, rfl, ho3⟩ | ⟨h3, _⟩
  · obtain ⟨x3, c3, hv3, hrd3⟩ := rd_any ho3 HZN.out HZT.out
    subst hv3
    have HB3 := hid (Bn HB2.out hb3)
    have T3 : (convert 22 9 (.slice x3 zn c3)).run Tryd.prog w3 = .ok (.string (strOfNums (ints z))) w3 := by
      have := (show Rd w3 (.slice x3 z.length c3) x3 c3 z by rw [HZN.out]; exact hrd3).text w3 (Below.refl _ _)
      rw [HZN.out] at this; exact this
    have TZ : (convert 22 9 (.slice b zn capb)).run Tryd.prog w3 = .ok (.string (strOfNums (ints z))) w3 := HZX.out w3 HB3.out
    have HO3 := hid (own_later HO2.out hb3)
    clear ho3 hrd3 hb3 HOP2 HO2 HZX
    generalize strOfNums (ints z) = sz at *
    by_cases hx0 : x = 0
    · have hx0' : ((x : Int) == 0) = true := by rw [beq_iff_eq]; omega
      have hx1 : (x : Int) = 0 := by omega
      go_wp2
      go_ret
      exact ⟨rfl, HB3.out⟩
    · have hx0' : ((x : Int) == 0) = false := by rw [beq_eq_false_iff_ne]; omega
      have hx1 : ¬ (x : Int) = 0 := by omega
      obtain ⟨j, hj⟩ : ∃ j, j = at_ % 32 := ⟨_, rfl⟩
      have hj32 : j < 32 := by omega
      have hjj : (at_ : Int) % 32 = (j : Int) := by omega
      have hgk : (z ++ hmac key z).getD (zn + j) 0 = (hmac key z).getD j 0 := by
        rw [List.getD, List.getElem?_append_right (by rw [HZN.out]; omega), HZN.out, Nat.add_sub_cancel_left, ← List.getD]
      obtain ⟨hos, hcell, hfz, _, _⟩ := own_set HO3.out (zn + j) ((hmac key z).getD j 0 ^^^ x) (by omega)
      rw [hgk] at hcell
      rw [List.set_append_right _ _ (by rw [HZN.out]; omega), HZN.out, Nat.add_sub_cancel_left] at hos
      have hMb := HMT.out j
      have hxb := u8_xor_nat ((hmac key z).getD j 0) x hMb hx
      have HEB := hid (eqB_changed (hmac key z) HML.out j x hj32 hx0)
      have hql : (z ++ (hmac key z).set j ((hmac key z).getD j 0 ^^^ x)).length = zn + 32 := by rw [List.length_append, List.length_set, HML.out, HZN.out]
      have hqt : (z ++ (hmac key z).set j ((hmac key z).getD j 0 ^^^ x)).take zn = z := by rw [← HZN.out]; exact List.take_left
      have hqd : (z ++ (hmac key z).set j ((hmac key z).getD j 0 ^^^ x)).drop zn = (hmac key z).set j ((hmac key z).getD j 0 ^^^ x) := by rw [← HZN.out]; exact List.drop_left
      have hqb : ∀ i, (z ++ (hmac key z).set j ((hmac key z).getD j 0 ^^^ x)).getD i 0 < 256 := getD_app _ _ HZT.out (by
        rw [all_lt]
        intro y hy
        rcases List.mem_or_eq_of_mem_set hy with h | h
        · exact (all_lt _).1 HMT.out y h
        · rw [h]; exact Nat.xor_lt_two_pow (n := 8) hMb hx)
      have hB4 : Below W.heap.size W (w3.setCell ⟨g2, zn + j, none⟩ (.int .u8 (((hmac key z).getD j 0 ^^^ x : Nat) : Int))) := HB3.out.setCell (by show W.heap.size ≤ g2; omega) _
      rw [← hql] at hos
      obtain ⟨g4, c4, hv4, _, hrd4⟩ := rd_own hos (by omega) hqb
      rw [hv4] at hrd4
      rw [hql] at hrd4 hv4
      injection hv4 with e1 e2 e3
      injection e1 with e1
      injection e1 with e1
      subst e1 e3
      have hop4 := HOP.out _ hB4 g2 c2 _ hql hrd4
      rw [hqt, hqd, HEB.out] at hop4
      have HOP4 := hid hop4
      have HB4 := hid hB4
      clear hop4 hrd4 hos hqb hqd hqt hql hB4 HEB hgk HO3 HOP
      generalize (hmac key z).getD j 0 = mj at *
      have hkn : (zn : Int) + (at_ : Int) % 32 < (zn : Int) + 32 := by omega
      have hk0 : 0 ≤ (zn : Int) + (at_ : Int) % 32 := by omega
      have hkt : ((zn : Int) + (at_ : Int) % 32).toNat = zn + at_ % 32 := by omega
      subst hj
      clear hjj
      go_wp2_with fail
      go_at_call 8
      refine HOP4.out.mono ?_
      rintro _ w5 ⟨h5, hb5⟩
      rcases h5 with ⟨h5, _⟩ | ⟨_, rfl⟩
      · cases h5
      · have HB5 := hid (Bn HB4.out hb5)
        clear hb5 HOP4
        go_wp2
        go_ret
        exact ⟨rfl, HB5.out⟩
  · cases h3

set_option maxRecDepth 100000 in
theorem lifted (os : Os) (started : os.Started) (H : Type) (enc : TypeId × Value → H) :
    ReturnsInHanded {} Tryd.checked os 3 .any (fun w args => (Rows.macBackSpec.pre enc Tryd.prog Tryd.f3 [] false w args ∧ laidMetH Tryd.prog laidL w) ∧ sizedMet enc Tryd.prog Tryd.f3 (OpenSpec.ofChange Rows.macBackSpec) false w args)
      (Rows.macBackSpec.post enc Tryd.prog Tryd.f3 false true false false) := by
  refine returnsInHanded_of_change_and (C := Tryd.checked) (X := fun w _ => laidMetH Tryd.prog laidL w) (fun _ _ _ hh h => h.of_heap hh) own started (by kernel_rfl) Tryd.func3
    (ChangeSpec.witness_shaped (enc := enc) (C := Tryd.checked) (os := os) (X := fun w _ => laidMetH Tryd.prog laidL w) false (World.doorLaid Tryd.prog 400 os) #[.slice none 0 0, .slice none 0 0, .int .u8 0, .int .u8 0] 8 rfl (World.shaped_of_RefB (by kernel_rfl) (by kernel_rfl)) (by kernel_rfl) (by kernel_rfl) (by kernel_rfl) (door_met os _)) ?_
  intro W base args ds gs before hval0 hW _ _ hL _
  have hval : ∀ (j : Nat) t v, Tryd.f3.params[j]? = some t → args[j]? = some v → Value.okWide Tryd.prog W .any base t v := hval0
  have hW' := hW
  obtain ⟨p, q, hA0, hV, rfl, _, _⟩ := hW
  have hA : DataW.TrodAll enc Tryd.prog W 0 (fun _ => true) true Tryd.f3.params.toList args.toList ds p := hA0
  rw [Tryd.params3] at hA hval
  obtain ⟨v0, vs0, d0, ds0, p0, q0, hargs, rfl, rfl, h0, r0⟩ := trodAll_cons hA
  obtain ⟨v1, vs1, d1, ds1, p1, q1, rfl, rfl, rfl, h1, r1⟩ := trodAll_cons r0
  obtain ⟨v2, vs2, d2, ds2, p2, q2, rfl, rfl, rfl, h2, r2⟩ := trodAll_cons r1
  obtain ⟨v3, vs3, d3, ds3, p3, q3, rfl, rfl, rfl, h3, r3⟩ := trodAll_cons r2
  obtain ⟨rfl, rfl, rfl⟩ := trodAll_nil r3
  obtain rfl : args = #[v0, v1, v2, v3] := by cases args; simp_all
  obtain ⟨rfl, rfl⟩ := trodVars_none hV
  have hlaid := of_laid hL
  obtain ⟨a2, rfl, rfl, rfl, w2⟩ := open_int Tryd.underlying5 (hval 2 5 v2 rfl rfl) h2
  obtain ⟨a3, rfl, rfl, rfl, w3⟩ := open_int Tryd.underlying5 (hval 3 5 v3 rfl rfl) h3
  clear hA0
  simp only [List.append_nil] at hW'
  have hlt0 : ∀ x ∈ p0, x.block < W.heap.size := fun x hx => hW'.lt x (by simp [hx])
  have hk0 := h0
  obtain ⟨a0, cap0, zs0, rfl, hr0⟩ := open_rd (hval 0 22 v0 rfl rfl) h0 hlt0
  have hlt1 : ∀ x ∈ p1, x.block < W.heap.size := fun x hx => hW'.lt x (by simp [hx])
  have hk1 := h1
  obtain ⟨a1, cap1, zs1, rfl, hr1⟩ := open_rd (hval 1 22 v1 rfl rfl) h1 hlt1
  clear hval0
  have hn2 := wf_u8 w2
  have hn3 := wf_u8 w3
  obtain ⟨n2, rfl⟩ := Int.eq_ofNat_of_zero_le hn2.1
  obtain ⟨n3, rfl⟩ := Int.eq_ofNat_of_zero_le hn3.1
  refine (walk a0 cap0 zs0 a1 cap1 zs1 n2 n3 W hlaid hr0 hr1 (by omega) (by omega)).mono fun e W' ⟨he, hb⟩ => ?_
  subst he
  exact ⟨_, rfl, _, _, _, [] ++ [], _, [], hW', trodAll_cons_mk (shut_bool Tryd.underlying4 _) trodAll_mk0, (trodAll_cons_mk (Below.trod Tryd.laidOut (by kernel_rfl) (of_decide_eq_true (by kernel_rfl)) hk0 hb hlt0) (trodAll_cons_mk (Below.trod Tryd.laidOut (by kernel_rfl) (of_decide_eq_true (by kernel_rfl)) hk1 hb hlt1) (trodAll_cons_mk (shut_int Tryd.underlying5 w2) (trodAll_cons_mk (shut_int Tryd.underlying5 w3) trodAll_mk0)))), rfl, hb.frame _, fun h => by cases h⟩

theorem over : Rows.macBackRow.holds Tryd.pinned (OpenSpec.ofChange Rows.macBackSpec) :=
  OpenClaim.holds_of_wide 3 Tryd.f3 rfl rfl rfl rfl rfl rfl rfl ⟨rfl, rfl, rfl, rfl, rfl⟩ rfl rfl rfl rfl rfl (by kernel_rfl) Tryd.func3 (by kernel_rfl)
    (of_decide_eq_true (by kernel_rfl)) (by unfold Func.isWrapper; first | (rw [if_pos (by decide +kernel)]; kernel_rfl) | (rw [if_neg (by decide +kernel)]; exact ⟨rfl, rfl⟩))
    (fun os started H enc _ => lifted os started H enc)

theorem card : Rows.MacBackCardSaid :=
  Claim7.holds_tied_plain_at .later [] [.data, .data] true (true, "8b8df36a7bac5b940c91e262045c667b03ba079ebe8b8c15b58c5cccde6b819a") false
    over (fun _ h => by cases h) (by kernel_rfl) (fun _ h => by cases h) macBack_row_tie rfl ⟨rfl, rfl⟩ (by kernel_rfl) rfl
    (fun f fn hf hfn => by
      obtain rfl : f = 3 := Option.some.inj ((show Tryd.prog.funcNamed "saltern/salternlaw04.MacBack" = some 3 by kernel_rfl).symm.trans hf) |>.symm
      obtain rfl : fn = Tryd.f3 := (Option.some.inj (Tryd.func3.symm.trans hfn)).symm
      exact ⟨by kernel_rfl, fun j t ht => by
        rw [Tryd.params3] at ht
        have hm : t ∈ [22, 22, 5, 5] := by simpa using Array.mem_of_getElem? ht
        have hall : ([22, 22, 5, 5].all fun u => !Tryd.prog.wantsStandIn u) = true := by kernel_rfl
        exact (show Tryd.prog.wantsStandIn t = false by simpa using List.all_eq_true.1 hall t hm)⟩)
    (by kernel_rfl)

end Go.Proofs.YtkipepodgmfbnabDoor.macBack
namespace Go.Proofs.YtkipepodgmfbnabDoor
theorem macBack_holds : Rows.MacBackCardSaid := macBack.card
#print axioms macBack_holds
end Go.Proofs.YtkipepodgmfbnabDoor
