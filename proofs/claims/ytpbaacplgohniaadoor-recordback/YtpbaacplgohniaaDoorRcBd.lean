/-
  A path and pieces that are taken: record's reader.path, reader.pieces.
-/
import Derived.Test.YtpbaacplgohniaaDoorRcBc
import Derived.Test.YtpbaacplgohniaaDoorRcO
namespace Go.Proofs.YtpbaacplgohniaaDoor
open Go.ChangeShapes Go.WideShapes Go.ChangeAt Go.RowKit Go.Deep

/-- A path's bytes, and what is left. -/
def pthO : List Int → Option (List Int × List Int)
  | [] => none
  | z :: zs => if z.toNat ≤ zs.length then some (zs.take z.toNat, zs.drop z.toNat) else none
/-- k pieces, and what is left. -/
def pcsG : Nat → List Int → Option (List Pc × List Int)
  | 0, zs => some ([], zs)
  | k + 1, zs => match numO 4096 zs with
    | none => none
    | some (n, z1) => if 32 ≤ z1.length then (match pcsG k (z1.drop 32) with
      | none => none
      | some (l, rs) => some ((z1.take 32, (n : Int)) :: l, rs)) else none
def pcsR (zs : List Int) : Option (List Pc × List Int) := match numO 4096 zs with
  | none => none
  | some (k, rs) => pcsG k rs
def glue (l : List Pc) : Option (List Pc × List Int) → Option (List Pc × List Int)
  | none => none
  | some (m, rs) => some (l ++ m, rs)
theorem glue_nil (o : Option (List Pc × List Int)) : glue [] o = o := by
  cases o with
  | none => rfl
  | some p => rfl
theorem glue_no {l : List Pc} {k : Nat} {zs : List Int} (h : numO 4096 zs = none) : glue l (pcsG (k + 1) zs) = none := by rw [pcsG, h]; rfl
theorem glue_no2 {l : List Pc} {k n : Nat} {zs z1 : List Int} (h : numO 4096 zs = some (n, z1)) (h2 : ¬ 32 ≤ z1.length) : glue l (pcsG (k + 1) zs) = none := by rw [pcsG, h]; dsimp only; rw [if_neg h2]; rfl
theorem glue_yes {l : List Pc} {k n : Nat} {zs z1 : List Int} (h : numO 4096 zs = some (n, z1)) (h2 : 32 ≤ z1.length) : glue l (pcsG (k + 1) zs) = glue (l ++ [(z1.take 32, (n : Int))]) (pcsG k (z1.drop 32)) := by
  rw [pcsG, h]; dsimp only; rw [if_pos h2]
  cases pcsG k (z1.drop 32) with
  | none => rfl
  | some p => simp [glue]
def PthPost (w0 w : World) (g : Nat) (o : Option (List Int × List Int)) (e : Ending) (w' : World) : Prop := match o with
  | none => e = .panicked faultC ∧ But1 g w w'
  | some (p, rs) => e = .returned (.string (strOfNums p)) ∧ ∃ a' c', Rd w0 w' g a' c' rs ∧ But1 g w w'
def PcsPost (w0 w : World) (g : Nat) (o : Option (List Pc × List Int)) (e : Ending) (w' : World) : Prop := match o with
  | none => e = .panicked faultC ∧ But1 g w w'
  | some (l, rs) => ∃ a c, e = .returned (.slice a l.length c) ∧ Rp w' a c l ∧ ∃ a' c', Rd w0 w' g a' c' rs ∧ But1 g w w' ∧ ∀ b off, a = some ⟨b, off, none⟩ → w.heap.size ≤ b
theorem Rd.byte {w0 w : World} {g : Nat} {a : Option Addr} {cap : Nat} {zs : List Int} (h : Rd w0 w g a cap zs) : ∀ z ∈ zs, 0 ≤ z ∧ z ≤ 255 := all_u8 h.row.fits
set_option maxRecDepth 100000 in
theorem rpath_word (w0 w : World) (g : Nat) (a : Option Addr) (cap : Nat) (zs : List Int) (h : Rd w0 w g a cap zs) :
    Calls Tryd.prog 64 #[.pointer (some ⟨g, 0, none⟩)] w (PthPost w0 w g (pthO zs)) := by
  cases zs with
  | nil =>
    have HB := hid (byte_none w0 w g a cap h)
    go_enter Tryd.func64, Tryd.ntmps64
    go_wp2_with fail
    refine HB.out.mono ?_
    rintro _ w1 ⟨rfl, hw⟩
    obtain rfl := hw.symm
    exact ⟨rfl, rfl, .refl _ _⟩
  | cons z zs =>
    have hz := h.byte z (by simp)
    obtain ⟨n, rfl⟩ := Int.eq_ofNat_of_zero_le hz.1
    have hnb : (n : Int) ≤ 255 := hz.2
    have HB := hid (byte_some w0 w g a cap (n : Int) zs h)
    have HT : Hid (∀ V a' c', Rd w0 V g a' c' zs → n ≤ zs.length → _) := fun V a' c' q hn => take_some w0 V g a' c' zs n q hn
    have HN : Hid (∀ V a' c', Rd w0 V g a' c' zs → ¬ n ≤ zs.length → _) := fun V a' c' q hn => take_none w0 V g a' c' zs n q hn
    have HP : Hid (pthO ((n : Int) :: zs) = if n ≤ zs.length then some (zs.take n, zs.drop n) else none) := by show _ = _; rw [pthO, Int.toNat_natCast]
    obtain ⟨P, hP⟩ : ∃ P, P = pthO ((n : Int) :: zs) := ⟨_, rfl⟩
    rw [← hP] at HP ⊢
    clear h hz hP
    by_cases hn : n ≤ zs.length
    · have HP2 : Hid (P = some (zs.take n, zs.drop n)) := by show _ = _; rw [HP.out, if_pos hn]
      have HNN := hid hn
      clear hn HP
      go_enter Tryd.func64, Tryd.ntmps64
      go_wp2_with fail
      refine HB.out.mono ?_
      rintro _ w1 ⟨rfl, a1, c1, hd, hb⟩
      have HD := hid hd
      have HB1 := hid hb
      clear hd hb
      go_wp2_with fail
      refine (HT.out w1 a1 c1 HD.out HNN.out).mono ?_
      rintro _ w2 ⟨a2, rfl, hi, a3, c3, hd2, hb2⟩
      have ht := hi.text w2 hd2.bel
      have HD2 := hid hd2
      have HB2 := hid (HB1.out.trans hb2)
      clear hi hd2 hb2 HD HB1
      generalize (zs.take n).length = L1 at *
      generalize hTK : strOfNums (zs.take n) = TK at *
      have HTK := hid hTK
      clear hTK
      go_wp2
      go_ret
      rw [HP2.out]
      exact ⟨by rw [HTK.out]; rfl, _, _, HD2.out, HB2.out⟩
    · have HP2 : Hid (P = none) := by show _ = _; rw [HP.out, if_neg hn]
      have HNN := hid hn
      clear hn HP
      go_enter Tryd.func64, Tryd.ntmps64
      go_wp2_with fail
      refine HB.out.mono ?_
      rintro _ w1 ⟨rfl, a1, c1, hd, hb⟩
      have HD := hid hd
      have HB1 := hid hb
      clear hd hb
      go_wp2_with fail
      refine (HN.out w1 a1 c1 HD.out HNN.out).mono ?_
      rintro _ w2 ⟨rfl, hw⟩
      obtain rfl := hw.symm
      refine ⟨rfl, ?_⟩
      rw [HP2.out]
      exact ⟨rfl, HB1.out⟩
theorem built76 (n : Int) (d : List Int) (h : d.length = 32) : Tryd.prog.built 76 [(0, .agg (u8A d)), (1, .int .i64 n)] = some (pcC (d, n)).toArray := by
  obtain ⟨a0, a1, a2, a3, a4, a5, a6, a7, a8, a9, a10, a11, a12, a13, a14, a15, a16, a17, a18, a19, a20, a21, a22, a23, a24, a25, a26, a27, a28, a29, a30, a31, rfl⟩ := list32 d h
  kernel_rfl
theorem own_but {w w' : World} {B e size n g : Nat} {v : Value} {xs : List Value} (h : w.ownsRow B e size v n xs) (hb : But1 g w w') (hg : g < B) : w'.ownsRow B e size v n xs := by
  refine ⟨h.1, ?_⟩
  rcases h.2 with h1 | ⟨g', cap, cur, hv, hg', hh, hr⟩
  · exact Or.inl h1
  · exact Or.inr ⟨g', cap, cur, hv, hg', (hb.same _ (Array.getElem?_eq_some_iff.1 hh).1 (by omega)).trans hh, hr⟩
set_option maxHeartbeats 3200000 in
set_option maxRecDepth 100000 in
theorem rpieces_word (w0 w : World) (g : Nat) (a : Option Addr) (cap : Nat) (zs : List Int) (h : Rd w0 w g a cap zs) :
    Calls Tryd.prog 65 #[.pointer (some ⟨g, 0, none⟩)] w (PcsPost w0 w g (pcsR zs)) := by
  have HNN : Hid (∀ V a' c' z, Rd w0 V g a' c' z → numO 4096 z = none → Calls Tryd.prog 62 #[.pointer (some ⟨g, 0, none⟩), .int .i64 4096] V fun e w' => e = .panicked faultC ∧ w' = V) := fun V a' c' z q hn => number_none w0 V g a' c' 4096 z q (by omega) hn
  have HNS : Hid (∀ V a' c' z, Rd w0 V g a' c' z → ∀ x rs, numO 4096 z = some (x, rs) → Calls Tryd.prog 62 #[.pointer (some ⟨g, 0, none⟩), .int .i64 4096] V fun e w' => e = .returned (.int .i64 (x : Int)) ∧ ∃ a1 c1, Rd w0 w' g a1 c1 rs ∧ But1 g V w') := fun V a' c' z q x rs hn => number_some w0 V g a' c' 4096 z q (by omega) x rs hn
  have HGL := hid h.lt
  have HGE := hid h.ge
  have HWL := hid h.bel.size
  have HD := hid h
  obtain ⟨PP, hPP⟩ : ∃ P, P = pcsR zs := ⟨_, rfl⟩
  have HPP := hid hPP
  rw [← hPP]
  clear h hPP
  cases hk : numO 4096 zs with
  | none =>
    have HPE : Hid (PP = none) := by show _ = _; rw [HPP.out, pcsR, hk]
    have HK := hid hk
    clear hk HPP
    go_enter Tryd.func65, Tryd.ntmps65
    go_wp2_with fail
    refine (HNN.out w a cap zs HD.out HK.out).mono ?_
    rintro _ w1 ⟨rfl, hw⟩
    obtain rfl := hw.symm
    refine ⟨rfl, ?_⟩
    rw [HPE.out]
    exact ⟨rfl, .refl _ _⟩
  | some p =>
    obtain ⟨K, z1⟩ := p
    have HPE : Hid (PP = pcsG K z1) := by show _ = _; rw [HPP.out, pcsR, hk]
    have hK := (numO_len hk).1
    have HK := hid hk
    clear hk HPP
    obtain ⟨i0, hi, hz0, hz1, hz2⟩ := info_parts Tryd.info76
    have hKi : (K : Int) ≤ 4096 := by omega
    go_enter Tryd.func65, Tryd.ntmps65
    go_wp2_with fail
    refine (HNS.out w a cap zs HD.out K z1 HK.out).mono ?_
    rintro _ W0 ⟨rfl, a1, c1, hd1, hb1⟩
    have HD1 := hid hd1
    have HB1 := hid hb1
    clear hd1 hb1 HK HD
    go_wp2
    go_loopw [3, 9] (fun x3 x9 wr => ∃ (i : Nat) (l : List Pc) (cur : List Int), i ≤ K ∧ x9 = .int .i64 (i : Int) ∧ Hid (l.length = i) ∧ Hid (wr.ownsRow w.heap.size 76 33 x3 l.length (l.flatMap pcC)) ∧ Hid (∀ x ∈ l, PcOk x) ∧ Hid (∃ a' c', Rd w0 wr g a' c' cur) ∧ Hid (But1 g w wr) ∧ Hid (PP = glue l (pcsG (K - i) cur))) (fun _ x9 _ => K - (intOf x9).toNat)
    case atStart => exact ⟨0, [], z1, by omega, rfl, rfl, World.ownsRow_nil _ _ _ _, (fun x hx => by cases hx), ⟨_, _, HD1.out⟩, HB1.out, by show _ = _; rw [HPE.out, glue_nil]; rfl⟩
    case round =>
      obtain ⟨i, l, cur, hiK, rfl, HLI, HO, HOK, HRD, HBT, HGP⟩ := hrel
      obtain ⟨a2, c2, hd2⟩ := HRD.out
      have HD2 := hid hd2
      clear hd2 HRD
      by_cases hlt : i < K
      · have hz : (i : Int) < (K : Int) := by omega
        have hke : K - i = (K - (i + 1)) + 1 := by omega
        have HKE := hid hke
        clear hke
        cases hn : numO 4096 cur with
        | none =>
          have HN := hid hn
          clear hn
          go_wp2_with fail
          refine (HNN.out wr a2 c2 cur HD2.out HN.out).mono ?_
          rintro _ w1 ⟨rfl, hw⟩
          obtain rfl := hw.symm
          refine ⟨rfl, ?_⟩
          rw [HGP.out, HKE.out, glue_no HN.out]
          exact ⟨rfl, HBT.out⟩
        | some p =>
          obtain ⟨n, z2⟩ := p
          have HN := hid hn
          have hnb := (numO_len hn).1
          have hni : (n : Int) ≤ 4096 := by omega
          clear hn
          go_wp2_with fail
          refine (HNS.out wr a2 c2 cur HD2.out n z2 HN.out).mono ?_
          rintro _ W1 ⟨rfl, a3, c3, hd3, hb3⟩
          have HD3 := hid hd3
          have HB3 := hid (HBT.out.trans hb3)
          have HO3 := hid (own_but HO.out hb3 HGL.out)
          clear hd3 hb3 HD2 HO HBT
          by_cases h32 : 32 ≤ z2.length
          · have H32 := hid h32
            have HDL : Hid ((z2.take 32).length = 32) := by show _ = _; simp; omega
            have HGY := hid (HGP.out.trans (by rw [HKE.out, glue_yes HN.out H32.out]))
            have HPK : Hid (PcOk (z2.take 32, (n : Int))) := ⟨HDL.out, (HD3.out.row.take 32).fits, wf_mk_i64 (by show (_ : Int) ≤ (n : Int); omega) (by show (n : Int) ≤ _; omega)⟩
            clear h32 HGP HN
            go_wp2_with fail
            refine (digest_some w0 W1 g a3 c3 z2 HD3.out H32.out).mono ?_
            rintro _ W2 ⟨rfl, a4, c4, hd4, hb4⟩
            generalize z2.take 32 = D at *
            generalize z2.drop 32 = z3 at *
            have hbc := bel_alc W2 (.cells (pcC (D, (n : Int))).toArray 76)
            have HD4 := hid (hd4.later hbc)
            have HB4 := hid ((HB3.out.trans hb4).trans (.of_below hbc))
            have HO4 := hid ((own_but HO3.out hb4 HGL.out).alloc (.cells (pcC (D, (n : Int))).toArray 76))
            have HBU := hid (built76 (n : Int) D HDL.out)
            have HPL : Hid ((pcC (D, (n : Int))).length = 33) := pcC_len HDL.out
            have HPZ : Hid ((pcC (D, (n : Int))).toArray.size = 33) := by show _ = _; rw [List.size_toArray, HPL.out]
            have HNW : Hid (∀ j u, (pcC (D, (n : Int)))[j]? = some u → (W2.alloc (.cells (pcC (D, (n : Int))).toArray 76)).cell? ((⟨W2.heap.size, 0, none⟩ : Addr).add j) = some u) := fun j u hu => by
              rw [add_plain, Nat.zero_add]
              exact (Joins.cell_of_block (heap_alc W2 _) j).trans (by rw [List.getElem?_toArray]; exact hu)
            have HS1 : Hid (w.heap.size ≤ (W2.alloc (.cells (pcC (D, (n : Int))).toArray 76)).heap.size) := HB4.out.bel.size
            have HNE := hid (pcC_one (D, (n : Int)))
            clear hbc hd4 hb4 HO3 HD3 HB3
            have hli : l.length ≤ 4096 := by rw [HLI.out]; omega
            have HLL := hid hli
            clear hli
            go_wp2_with (first | refine wpList_buildTo rfl 76 _ rfl (some 21) rfl (pcC (D, (n : Int))).toArray (Eq.trans (congrArg (Tryd.prog.built 76) (by simp only [List.map_toArray, List.map_cons, List.map_nil]; rfl)) HBU.out) ?_ | refine wpList_buildOne rfl 25 76 _ rfl (some 22) rfl (pcC (D, (n : Int))).toArray i0 _ Tryd.underlying25 hi hz0 (by rw [hz1, HPZ.out]) (by rw [HPZ.out]; decide) (by rw [HPZ.out]; decide) rfl ?_ | (at_builtin; refine wpList_append_own _ rfl _ _ 25 rfl w.heap.size 76 i0 _ 33 40 Tryd.underlying25 hi hz0 hz1 hz2 rfl (by decide) _ _ _ rfl HO4.out ⟨W2.heap.size, 0, none⟩ 1 1 (pcC (D, (n : Int))) rfl (by rw [HPL.out]) HNW.out HNE.out (by have := HLL.out; unfold maxLen; omega) (by have := HLL.out; omega) HS1.out ?_))
            intro v2 W3 ho2 hg2 _
            have HO5 : Hid (W3.ownsRow w.heap.size 76 33 v2 (l ++ [(D, (n : Int))]).length ((l ++ [(D, (n : Int))]).flatMap pcC)) := by
              show World.ownsRow _ _ _ _ _ _ _
              rw [List.length_append, List.flatMap_append]
              simpa using ho2
            have hb5 : Below w.heap.size (W2.alloc (.cells (pcC (D, (n : Int))).toArray 76)) W3 := (Below.refl _ _).grown hg2 HS1.out (fun j hj => (HO4.out.lt j hj).1)
            have HB5 : Hid (But1 g w W3) := ⟨HB4.out.bel.trans (hb5.mono (Nat.zero_le _)), fun j hj hn => (hb5.block j hj).trans (HB4.out.same j hj hn)⟩
            have HD5 : Hid (Rd w0 W3 g a4 c4 z3) := ⟨(hb5.block _ HGL.out).trans HD4.out.blk, HD4.out.row, HD4.out.bel.trans (hb5.mono HWL.out), HD4.out.ge⟩
            have HK5 : Hid (∀ x ∈ l ++ [(D, (n : Int))], PcOk x) := fun x hx => by
              rcases List.mem_append.1 hx with q | q
              · exact HOK.out x q
              · rw [List.mem_singleton] at q; subst q; exact HPK.out
            clear ho2 hg2 hb5 HO4 HNW HB4 HD4
            go_wp2
            go_round
            case rel => exact ⟨i + 1, l ++ [(D, (n : Int))], z3, by omega, by go_num, by show _ = _; rw [List.length_append, HLI.out]; rfl, HO5.out, HK5.out, ⟨_, _, HD5.out⟩, HB5.out, HGY.out⟩
            case measure => simp [intOf]; omega
          · have H32 := hid h32
            have HGN := hid (HGP.out.trans (by rw [HKE.out, glue_no2 HN.out H32.out]))
            clear h32 HGP HN
            go_wp2_with fail
            refine (digest_none w0 W1 g a3 c3 z2 HD3.out H32.out).mono ?_
            rintro _ W2 ⟨rfl, hb4⟩
            refine ⟨rfl, ?_⟩
            rw [HGN.out]
            exact ⟨rfl, HB3.out.trans hb4⟩
      · have hz : ¬ (i : Int) < (K : Int) := by omega
        have hik : i = K := by omega
        have HFI : Hid (PP = some (l, cur)) := by
          show _ = _
          rw [HGP.out, hik, Nat.sub_self]
          show some (l ++ [], cur) = _
          rw [List.append_nil]
        obtain ⟨a5, c5, hv5, hr5, hg5⟩ := Rp.own HO.out HOK.out
        subst hv5
        have HR5 := hid hr5
        have HG5 := hid hg5
        clear hr5 hg5 HGP HO HOK hik
        generalize hLL : l.length = LL at *
        have HLL := hid hLL
        clear hLL
        go_wp2
        go_ret
        rw [HFI.out]
        exact ⟨_, _, by rw [HLL.out]; rfl, HR5.out, _, _, HD2.out, HBT.out, HG5.out⟩
end Go.Proofs.YtpbaacplgohniaaDoor
