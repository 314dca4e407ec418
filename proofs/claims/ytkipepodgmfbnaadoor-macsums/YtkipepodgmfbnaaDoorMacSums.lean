/-
  MacSums: for every key, all bytes in two rows, every purpose and every number, the MAC and the purpose's key are the document's; where the program's tables are as its text lays them.
-/
import Derived.Test.YtkipepodgmfbnaaDoorCut
import Derived.Test.YtkipepodgmfbnaaDoorDeriveR
import Derived.ChangeMaps5
namespace Go.Proofs.YtkipepodgmfbnaaDoor.macSums
open Go.ChangeShapes Go.WideShapes Go.ChangeAt Go.RowKit Sha

set_option maxHeartbeats 3200000 in
set_option maxRecDepth 100000 in
theorem walk (a : Option Addr) (cap : Nat) (ks : List Nat) (b : Option Addr) (capb : Nat) (bs : List Nat) (c : Option Addr) (capc : Nat) (cs : List Nat) (s : ByteArray) (n : Nat) (W : World) (hl : Laid W)
    (hr : Rd W (.slice a ks.length cap) a cap ks) (hrb : Rd W (.slice b bs.length capb) b capb bs) (hrc : Rd W (.slice c cs.length capc) c capc cs) (hs : s.size ≤ maxLen) (hn : n < 2 ^ 64) :
    Calls Tryd.prog 3 #[.slice a ks.length cap, .slice b bs.length capb, .slice c cs.length capc, .string s, .int .u64 (n : Int)] W fun e w' => e = .returned (.bool true) ∧ Below W.heap.size W w' := by
  have HC1 := hid (cut_row a cap ks W hr)
  have HC2 := hid (cut_row b capb bs W hrb)
  have HC3 := hid (cut_row c capc cs W hrc)
  have HR := hid (hr.take 2000)
  have HRB := hid (hrb.take 2000)
  have HRC := hid (hrc.take 2000)
  have hkl := take_len ks
  have hbl := take_len bs
  have hcl := take_len cs
  have HL := hid hl
  clear hr hrb hrc hl
  generalize ks.take 2000 = key at *
  generalize bs.take 2000 = y at *
  generalize cs.take 2000 = z at *
  have HFL : Hid ([y, z].flatten = y ++ z) := by show _ = _; simp
  have HM1 := hid (fun (w : World) (h : Below W.heap.size W w) (g : Nat) (hp : Ps w (some ⟨g, 0, none⟩) 2 [y, z]) => macSum_word a cap key ⟨g, 0, none⟩ 2 [y, z] w (HL.out.later h) (HR.out.later h) (by omega) hp (by simp) (by simp) (by simp; omega))
  have HM2 := hid (fun (w : World) (h : Below W.heap.size W w) (g : Nat) (hp : Ps w (some ⟨g, 0, none⟩) 2 [y, z]) => macSum_ref a cap key ⟨g, 0, none⟩ 2 [y, z] w (HR.out.later h) (by omega) hp (by simp) (by simp) (by simp; omega))
  have HPS := hid (fun (w : World) (h : Below W.heap.size W w) => Ps.two (HRB.out.later h) (HRC.out.later h) w.heap.size rfl)
  have hq1 := eq25 (hmac key [y, z].flatten) (hmac_length _ _)
  have hg := guard25
  generalize hmac key [y, z].flatten = M1 at *
  have HD1 := hid (fun (t : ByteArray) (ht : t.size ≤ 100000) (w : World) (h : Below W.heap.size W w) => derive_word a cap key t n w (HL.out.later h) (HR.out.later h) (by omega) ht hn)
  have HD2 := hid (fun (t : ByteArray) (ht : t.size ≤ 100000) (w : World) (h : Below W.heap.size W w) => derive_ref a cap key t n w (HR.out.later h) (by omega) ht hn)
  have hq2 := fun t : ByteArray => eq25 (hmac key (purposeL t n)) (hmac_length _ _)
  have HAW := hid (fun (w : World) (h : Below W.heap.size W w) => awake_any w (HL.out.later h))
  unfold maxLen at hs
  go_enter Tryd.func3, Tryd.ntmps3
  go_wp2_with fail
  go_at_call 9
  refine HC1.out.mono ?_
  rintro _ w2 ⟨rfl, hw⟩
  obtain rfl := hw.symm
  clear hw
  go_wp2_with fail
  go_at_call 9
  refine HC2.out.mono ?_
  rintro _ w2 ⟨rfl, hw⟩
  obtain rfl := hw.symm
  clear hw
  go_wp2_with fail
  go_at_call 9
  refine HC3.out.mono ?_
  rintro _ w2 ⟨rfl, hw⟩
  obtain rfl := hw.symm
  clear hw HC1 HC2 HC3
  generalize key.length = kn at *
  generalize y.length = yn at *
  generalize z.length = zn at *
  by_cases h2 : 2000 < s.size
  · have h2' : (2000 : Int) < (s.size : Int) := by omega
    have hts : (s.extract 0 2000).size ≤ 100000 := by simp; omega
    have HE1 := hid (HD1.out _ hts)
    have HE2 := hid (HD2.out _ hts)
    have hq := hq2 (s.extract 0 2000)
    clear hq2 HD1 HD2 hts
    go_wp2_with fail
    generalize hmac key (purposeL (s.extract 0 2000) n) = M2 at *
    generalize s.extract 0 2000 = sx at *
    have b1 := bel_alloc W (.cells #[.slice b yn capb, .slice c zn capc] 22)
    go_at_call 10
    refine (HM1.out _ b1 _ (HPS.out W (Below.refl _ _))).mono ?_
    rintro _ w3 ⟨rfl, hb3⟩
    have HB3 := hid (Bn b1 hb3)
    clear b1 hb3
    go_wp2_with fail
    have b4 := bel_alloc w3 (.cells #[.slice b yn capb, .slice c zn capc] 22)
    go_at_call 11
    refine (HM2.out _ (Bn HB3.out b4) _ (HPS.out w3 HB3.out)).mono ?_
    rintro _ w5 ⟨rfl, hb5⟩
    have HB5 := hid (Bn HB3.out (Bn b4 hb5))
    clear b4 hb5
    go_wp2_with fail
    go_at_call 12
    refine (HE1.out w5 HB5.out).mono ?_
    rintro _ w6 ⟨rfl, hb6⟩
    have HB6 := hid (Bn HB5.out hb6)
    clear hb6
    go_wp2_with fail
    go_at_call 13
    refine (HE2.out w6 HB6.out).mono ?_
    rintro _ w7 ⟨rfl, hb7⟩
    have HB7 := hid (Bn HB6.out hb7)
    clear hb7
    go_wp2_with fail
    go_at_call 14
    refine (HAW.out w7 HB7.out).mono ?_
    rintro _ w8 ⟨rfl, hb8⟩
    have HB8 := hid (Bn HB7.out hb8)
    clear hb8
    go_wp2
    go_ret
    exact ⟨rfl, HB8.out⟩
  · have h2' : ¬ (2000 : Int) < (s.size : Int) := by omega
    have hts : (s).size ≤ 100000 := by omega
    have HE1 := hid (HD1.out _ hts)
    have HE2 := hid (HD2.out _ hts)
    have hq := hq2 (s)
    clear hq2 HD1 HD2 hts
    go_wp2_with fail
    generalize hmac key (purposeL (s) n) = M2 at *
    skip
    have b1 := bel_alloc W (.cells #[.slice b yn capb, .slice c zn capc] 22)
    go_at_call 10
    refine (HM1.out _ b1 _ (HPS.out W (Below.refl _ _))).mono ?_
    rintro _ w3 ⟨rfl, hb3⟩
    have HB3 := hid (Bn b1 hb3)
    clear b1 hb3
    go_wp2_with fail
    have b4 := bel_alloc w3 (.cells #[.slice b yn capb, .slice c zn capc] 22)
    go_at_call 11
    refine (HM2.out _ (Bn HB3.out b4) _ (HPS.out w3 HB3.out)).mono ?_
    rintro _ w5 ⟨rfl, hb5⟩
    have HB5 := hid (Bn HB3.out (Bn b4 hb5))
    clear b4 hb5
    go_wp2_with fail
    go_at_call 12
    refine (HE1.out w5 HB5.out).mono ?_
    rintro _ w6 ⟨rfl, hb6⟩
    have HB6 := hid (Bn HB5.out hb6)
    clear hb6
    go_wp2_with fail
    go_at_call 13
    refine (HE2.out w6 HB6.out).mono ?_
    rintro _ w7 ⟨rfl, hb7⟩
    have HB7 := hid (Bn HB6.out hb7)
    clear hb7
    go_wp2_with fail
    go_at_call 14
    refine (HAW.out w7 HB7.out).mono ?_
    rintro _ w8 ⟨rfl, hb8⟩
    have HB8 := hid (Bn HB7.out hb8)
    clear hb8
    go_wp2
    go_ret
    exact ⟨rfl, HB8.out⟩

set_option maxRecDepth 100000 in
theorem lifted (os : Os) (started : os.Started) (H : Type) (enc : TypeId × Value → H) :
    ReturnsInHanded {} Tryd.checked os 3 .any (fun w args => (Rows.macSumsSpec.pre enc Tryd.prog Tryd.f3 [] false w args ∧ laidMetH Tryd.prog laidL w) ∧ sizedMet enc Tryd.prog Tryd.f3 (OpenSpec.ofChange Rows.macSumsSpec) false w args)
      (Rows.macSumsSpec.post enc Tryd.prog Tryd.f3 false true false false) := by
  refine returnsInHanded_of_change_and (C := Tryd.checked) (X := fun w _ => laidMetH Tryd.prog laidL w) (fun _ _ _ hh h => h.of_heap hh) own started (by kernel_rfl) Tryd.func3
    (ChangeSpec.witness_shaped (enc := enc) (C := Tryd.checked) (os := os) (X := fun w _ => laidMetH Tryd.prog laidL w) false (World.doorLaid Tryd.prog 400 os) #[.slice none 0 0, .slice none 0 0, .slice none 0 0, .string ⟨#[]⟩, .int .u64 0] 8 rfl (World.shaped_of_RefB (by kernel_rfl) (by kernel_rfl)) (by kernel_rfl) (by kernel_rfl) (by kernel_rfl) (door_met os _)) ?_
  intro W base args ds gs before hval0 hW _ _ hL _
  have hval : ∀ (j : Nat) t v, Tryd.f3.params[j]? = some t → args[j]? = some v → Value.okWide Tryd.prog W .any base t v := hval0
  have hW' := hW
  obtain ⟨p, q, hA0, hV, rfl, _, _⟩ := hW
  have hA : DataW.TrodAll enc Tryd.prog W 0 (fun _ => true) true Tryd.f3.params.toList args.toList ds p := hA0
  rw [Tryd.params3] at hA hval
  obtain ⟨v0, vs0, d0, ds0, p0, q0, hargs, rfl, rfl, h0, r0⟩ := trodAll_cons hA
  obtain ⟨v1, vs1, d1, ds1, p1, q1, rfl, rfl, rfl, h1, r1⟩ := trodAll_cons r0
  obtain ⟨v2, vs2, d2, ds2, p2, q2, rfl, rfl, rfl, h2, r2⟩ := trodAll_cons r1
  obtain ⟨v3, vs3, d3, ds3, p3, q3, rfl, rfl, rfl, h3, r3⟩ := trodAll_cons r2
  obtain ⟨v4, vs4, d4, ds4, p4, q4, rfl, rfl, rfl, h4, r4⟩ := trodAll_cons r3
  obtain ⟨rfl, rfl, rfl⟩ := trodAll_nil r4
  obtain rfl : args = #[v0, v1, v2, v3, v4] := by cases args; simp_all
  obtain ⟨rfl, rfl⟩ := trodVars_none hV
  have hlaid := of_laid hL
  obtain ⟨a4, rfl, rfl, rfl, w4⟩ := open_int Tryd.underlying23 (hval 4 23 v4 rfl rfl) h4
  clear hA0
  simp only [List.append_nil] at hW'
  have hlt0 : ∀ x ∈ p0, x.block < W.heap.size := fun x hx => hW'.lt x (by simp [hx])
  have hk0 := h0
  obtain ⟨a0, cap0, zs0, rfl, hr0⟩ := open_rd (hval 0 22 v0 rfl rfl) h0 hlt0
  have hlt1 : ∀ x ∈ p1, x.block < W.heap.size := fun x hx => hW'.lt x (by simp [hx])
  have hk1 := h1
  obtain ⟨a1, cap1, zs1, rfl, hr1⟩ := open_rd (hval 1 22 v1 rfl rfl) h1 hlt1
  have hlt2 : ∀ x ∈ p2, x.block < W.heap.size := fun x hx => hW'.lt x (by simp [hx])
  have hk2 := h2
  obtain ⟨a2, cap2, zs2, rfl, hr2⟩ := open_rd (hval 2 22 v2 rfl rfl) h2 hlt2
  have hk3 := h3
  obtain ⟨s3, rfl, rfl, rfl, hsz3⟩ := Go.ChangeMaps.open_string Tryd.underlying9 (hval 3 9 v3 rfl rfl) h3
  have hlt3 : ∀ x ∈ ([] : List MemPlace), x.block < W.heap.size := fun _ h => by cases h
  clear hval0
  have hn4 := wf_u64 w4
  obtain ⟨n4, rfl⟩ := Int.eq_ofNat_of_zero_le hn4.1
  refine (walk a0 cap0 zs0 a1 cap1 zs1 a2 cap2 zs2 s3 n4 W hlaid hr0 hr1 hr2 hsz3 (by omega)).mono fun e W' ⟨he, hb⟩ => ?_
  subst he
  exact ⟨_, rfl, _, _, _, [] ++ [], _, [], hW', trodAll_cons_mk (shut_bool Tryd.underlying4 _) trodAll_mk0, (trodAll_cons_mk (Below.trod Tryd.laidOut (by kernel_rfl) (of_decide_eq_true (by kernel_rfl)) hk0 hb hlt0) (trodAll_cons_mk (Below.trod Tryd.laidOut (by kernel_rfl) (of_decide_eq_true (by kernel_rfl)) hk1 hb hlt1) (trodAll_cons_mk (Below.trod Tryd.laidOut (by kernel_rfl) (of_decide_eq_true (by kernel_rfl)) hk2 hb hlt2) (trodAll_cons_mk (Below.trod Tryd.laidOut (by kernel_rfl) (of_decide_eq_true (by kernel_rfl)) hk3 hb hlt3) (trodAll_cons_mk (shut_int Tryd.underlying23 w4) trodAll_mk0))))), rfl, hb.frame _, fun h => by cases h⟩

theorem over : Rows.macSumsRow.holds Tryd.pinned (OpenSpec.ofChange Rows.macSumsSpec) :=
  OpenClaim.holds_of_wide 3 Tryd.f3 rfl rfl rfl rfl rfl rfl rfl ⟨rfl, rfl, rfl, rfl, rfl⟩ rfl rfl rfl rfl rfl (by kernel_rfl) Tryd.func3 (by kernel_rfl)
    (of_decide_eq_true (by kernel_rfl)) (by unfold Func.isWrapper; first | (rw [if_pos (by decide +kernel)]; kernel_rfl) | (rw [if_neg (by decide +kernel)]; exact ⟨rfl, rfl⟩))
    (fun os started H enc _ => lifted os started H enc)

theorem card : Rows.MacSumsCardSaid :=
  Claim7.holds_tied_plain_at .later [] [.data, .data] true (true, "2cc0e993b3b64b7b1edc58afe05f57fbf6a628b0274488cf50cfbb3c249229ab") false
    over (fun _ h => by cases h) (by kernel_rfl) (fun _ h => by cases h) macSums_row_tie rfl ⟨rfl, rfl⟩ (by kernel_rfl) rfl
    (fun f fn hf hfn => by
      obtain rfl : f = 3 := Option.some.inj ((show Tryd.prog.funcNamed "saltern/salternlaw04.MacSums" = some 3 by kernel_rfl).symm.trans hf) |>.symm
      obtain rfl : fn = Tryd.f3 := (Option.some.inj (Tryd.func3.symm.trans hfn)).symm
      exact ⟨by kernel_rfl, fun j t ht => by
        rw [Tryd.params3] at ht
        have hm : t ∈ [22, 22, 22, 9, 23] := by simpa using Array.mem_of_getElem? ht
        have hall : ([22, 22, 22, 9, 23].all fun u => !Tryd.prog.wantsStandIn u) = true := by kernel_rfl
        exact (show Tryd.prog.wantsStandIn t = false by simpa using List.all_eq_true.1 hall t hm)⟩)
    (by kernel_rfl)

end Go.Proofs.YtkipepodgmfbnaaDoor.macSums
namespace Go.Proofs.YtkipepodgmfbnaaDoor
theorem macSums_holds : Rows.MacSumsCardSaid := macSums.card
#print axioms macSums_holds
end Go.Proofs.YtkipepodgmfbnaaDoor
