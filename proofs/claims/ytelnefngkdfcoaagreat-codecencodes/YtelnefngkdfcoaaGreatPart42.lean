/-
  The document's Encode.
-/
import Derived.Test.YtelnefngkdfcoaaGreatPart41
import Derived.Test.YtelnefngkdfcoaaGreatPart33
import Derived.Test.YtelnefngkdfcoaaGreatPart39
namespace Go.Proofs.YtelnefngkdfcoaaGreat
open Go.RowKit Hf Lz

theorem packB_u8 {w : World} {a : Option Addr} {cap : Nat} {l : List Tkz} (hr : Rt w a cap l) (hn : l.length ≤ 65536) (hz : (sizeO l).2 = 0) : ∀ j, 0 ≤ (packB l).getD j 0 ∧ (packB l).getD j 0 ≤ 255 := by
  obtain ⟨e, w', _, ⟨_, h⟩, _⟩ := pack_any a cap l w hr hn []
  rw [if_pos hz] at h
  obtain ⟨a', c', _, h2⟩ := h
  exact fun j => wf_u8 (h2.fits j)
theorem packB_len {w : World} {a : Option Addr} {cap : Nat} {l : List Tkz} (hr : Rt w a cap l) (hn : l.length ≤ 20000) (hz : (sizeO l).2 = 0) : (packB l).length ≤ 200000 := by
  have htok : ∀ j, j < l.length → ((l.getD j tk0).1 = 0 ∨ 1 ≤ (l.getD j tk0).1) ∧ (l.getD j tk0).1 ≤ 4096 := fun j hj => by
    have h8 := wf_u8 (hr.fits j hj).2.2
    rcases chk_two (sizeO_all hz j hj) h8 with h | h
    · exact ⟨Or.inl h.1, by omega⟩
    · exact ⟨Or.inr h.1, h.2.1⟩
  have hd := docB_eq l (fun j hj => (htok j hj).1) (packB_u8 hr (by omega) hz)
  have hKL : (intL (kindsN l l.length)).length = 511 := by rw [intL_length, kinds_length]
  have hDL : (intL (distsN l l.length)).length = 13 := by rw [intL_length, dists_length]
  have hKA := areC_int (kindsN l l.length) (by rw [kinds_length]; omega) (fun j => by have := kinds_le l l.length j; omega)
  have hDA := areC_int (distsN l l.length) (by rw [dists_length]; omega) (fun j => by have := dists_le l l.length j; omega)
  have hKS : (lsF l).length = (intL (kindsN l l.length)).length ∧ checkB (lsF l) = true := lenF_sure (intL (kindsN l l.length)) (by omega) (areC_rng hKA).2
  have hDS : (dsF l).length = (intL (distsN l l.length)).length ∧ checkB (dsF l) = true := lenF_sure (intL (distsN l l.length)) (by omega) (areC_rng hDA).2
  have h1 := runs_len (lsF l) (by omega)
  have h2 := runs_len (dsF l) (by omega)
  have h3 := vint_mid (l.length : Int) (by omega) (by omega)
  have h4 := bitD_len (lsF l) (dsF l) (fun j => ((len_rng hKS.2).2 j).2) (fun j => ((len_rng hDS.2).2 j).2) l (fun j hj => (htok j hj).2) l.length (Nat.le_refl _)
  rw [← hd]
  unfold docB headP
  rw [List.length_append, List.length_append, List.length_append, packN_length]
  omega
theorem own_one (w : World) (x : Int) : (w.alloc (.cells #[.int .u8 x] 5)).ownsRow w.heap.size 5 1 (.slice (some ⟨w.heap.size, 0, none⟩) 1 1) [x].length ([x].map (Value.int .u8)) :=
  ⟨rfl, .inr ⟨w.heap.size, 1, #[.int .u8 x], rfl, Nat.le_refl _, heap_new w _, Nat.le_refl _, by unfold maxLen; omega, rfl, rfl⟩⟩

set_option maxHeartbeats 6400000 in
set_option maxRecDepth 100000 in
theorem renc_ref (a : Option Addr) (cap : Nat) (bs : List Int) (w : World) (hr : Ri w .u8 a cap bs) (hn : bs.length ≤ 4200) :
    Calls Tryz.prog 16 #[.slice a bs.length cap] w (CncPost bs w) := by
  have HTK := hid (tokens_ref a cap bs w hr)
  have hO : tksO bs = (toksL bs, 0) := by unfold tksO; rw [if_neg (by omega)]
  have HFT := hid (tks_fit bs hr.fits)
  have HTS := hid (toks_size bs (by omega))
  have HR := hid hr
  have hu8 : ∀ j, 0 ≤ bs.getD j 0 ∧ bs.getD j 0 ≤ 255 := fun j => wf_u8 (hr.fits j)
  have HU := hid hu8
  unfold TksPost at HTK
  rw [hO] at HTK HFT
  clear hr hu8
  unfold CncPost encB
  obtain ⟨len, hl⟩ : ∃ n, n = bs.length := ⟨_, rfl⟩
  have HL := hid hl
  rw [← hl] at HTK hn ⊢
  obtain ⟨l, hll⟩ : ∃ l, l = (toksL bs).map toZ := ⟨_, rfl⟩
  have HLL := hid hll
  rw [← hll] at HTS ⊢
  clear hl hll hO
  generalize hE : (if (packB l).length < len then codB 1 len (packB l) else codB 0 len bs) = E
  have HE := hid hE
  clear hE
  have HVL := hid (vint_mid (len : Int) (by omega) (by omega))
  have HVU := hid (vint_u8 (len : Int) (by omega) (by omega))
  go_enter Tryz.func16, Tryz.ntmps16
  go_wp2_with fail
  refine HTK.out.mono ?_
  rintro _ w1 ⟨v, rfl, ho, hb⟩
  obtain ⟨a1, c1, rfl, hrt⟩ := Rt.own ho HFT.out
  have HB1 := hid hb
  rw [← HLL.out] at hrt
  have HRT := hid hrt
  have e1 : (toksL bs).length = l.length := by rw [HLL.out, List.length_map]
  have hl2 : l.length ≤ 20000 := by have := HTS.out.1; have := HL.out; omega
  have HPK : Hid (∀ V, Below w1.heap.size w1 V → Calls Tryz.prog 9 #[.slice a1 l.length c1] V (PkPost l V)) := fun V hV => rpack_any a1 c1 l V (HRT.out.later hV) hl2 (fun hz => packB_u8 HRT.out (by omega) hz)
  have HPL := hid (packB_len hrt hl2 HTS.out.2)
  unfold PkPost at HPK
  rw [HTS.out.2] at HPK
  dsimp only
  rw [e1]
  clear hb hrt ho e1 HTK HFT hl2 HRT
  generalize l.length = ll at *
  go_wp2_with fail
  refine (varr_ri (len : Int) w1 (by omega) (by omega)).mono ?_
  rintro _ w2 ⟨x2, y2, rfl, hr2, hb2⟩
  have HB2 := hid hb2
  have HR2 := hid hr2
  have HRB := hid (HR.out.later (Bn HB1.out hb2))
  clear hb2 hr2
  have HO3 := hid (own_one w2 0)
  have HA3 := hid (bel_alloc w2 (.cells #[.int .u8 0] 5))
  have HCD : Hid (∀ f : Nat, ∀ z, codB f len z = [(f : Int)] ++ vint (len : Int) ++ z) := fun f z => rfl
  generalize vint (len : Int) = VI at *
  have HR3 := hid (HR2.out.later HA3.out)
  have h3 := HA3.out.size
  go_wp2_with (at_builtin; refine app_any _ rfl _ _ rfl w2.heap.size _ [0] rfl HO3.out x2 y2 VI rfl HR3.out (by have := HVL.out; simp; omega) h3 ?_)
  intro v4 w4 ho4 hg4
  have HB4 := hid (HA3.out.grown hg4 h3 (fun j hj => (HO3.out.lt j hj).1))
  have HO4 : Hid (w4.ownsRow w2.heap.size 5 1 v4 ([0] ++ VI).length (([0] ++ VI).map (Value.int .u8))) := by
    show World.ownsRow _ _ _ _ _ _ _
    first | exact ho4 | (simp only [List.length_append, List.map_append, List.length_cons, List.length_nil, List.map_cons, List.map_nil] at ho4 ⊢; exact ho4) | simpa [Nat.add_comm] using ho4
  have HRB4 := hid (HRB.out.later HB4.out)
  have h4 := HB4.out.size
  have HLN4 : Hid (([0] ++ VI).length + bs.length ≤ 10000000) := by show _ ≤ _; have := HVL.out; have := HL.out; simp; omega
  rw [← HL.out] at HLN4
  clear ho4 hg4 HO3 HA3 HR3 h3
  generalize hX0 : [0] ++ VI = X0 at *
  have HX0 := hid hX0
  clear hX0
  have HL2 := HL
  go_wp2_with (at_builtin; refine app_any _ rfl _ _ rfl w2.heap.size _ X0 rfl HO4.out a cap bs (by rw [← HL2.out]; rfl) HRB4.out (by rw [← HL2.out]; exact HLN4.out) h4 ?_)
  intro v5 w5 ho5 hg5
  have HB5 := hid (HB4.out.grown hg5 h4 (fun j hj => (HO4.out.lt j hj).1))
  have HO5 : Hid (w5.ownsRow w2.heap.size 5 1 v5 (codB 0 len bs).length ((codB 0 len bs).map (Value.int .u8))) := by
    show World.ownsRow _ _ _ _ _ _ _
    rw [HCD.out 0 bs]
    rw [show ([((0 : Nat) : Int)] ++ VI) = X0 from HX0.out]
    first | exact ho5 | (simp only [List.length_append, List.map_append] at ho5 ⊢; exact ho5)
  clear ho5 hg5 HO4 HB4 HRB4 h4 HLN4
  have HUB : Hid (∀ f : Nat, f ≤ 255 → ∀ z, (∀ j, 0 ≤ z.getD j 0 ∧ z.getD j 0 ≤ 255) → ∀ j, 0 ≤ (codB f len z).getD j 0 ∧ (codB f len z).getD j 0 ≤ 255) := fun f hf z hz => codB_u8 f len z hf (by omega) hz
  have HB15 := hid (Bn HB2.out HB5.out)
  obtain ⟨x5, y5, rfl, hr5⟩ := Ri.own HO5.out (fun j => wf_mk_u8 (HUB.out 0 (by omega) bs HU.out j).1 (HUB.out 0 (by omega) bs HU.out j).2)
  have HR5 := hid hr5
  have HV5 := hid (HR2.out.later HB5.out)
  clear hr5 HO5 HB5 HRB HB2 HR2
  generalize hS : codB 0 len bs = ST at *
  have HST := hid hS
  clear hS
  obtain ⟨sl, hsl⟩ : ∃ n, n = ST.length := ⟨_, rfl⟩
  have HSL := hid hsl
  rw [← hsl]
  clear hsl
  go_wp2_with fail
  refine (HPK.out w5 HB15.out).mono ?_
  rintro _ w6 ⟨hb6, hp⟩
  rw [if_pos trivial] at hp
  obtain ⟨x6, y6, rfl, hr6⟩ := hp
  have HB16 := hid (Bn HB15.out hb6)
  have HV6 := hid (HV5.out.later hb6)
  have HR56 := hid (HR5.out.later hb6)
  have HR6 := hid hr6
  have HPU : Hid (∀ j, 0 ≤ (packB l).getD j 0 ∧ (packB l).getD j 0 ≤ 255) := fun j => wf_u8 (hr6.fits j)
  clear hb6 hr6 HPK HB15 HV5 HR5
  generalize packB l = PB at *
  have HO7 := hid (own_one w6 1)
  have HA7 := hid (bel_alloc w6 (.cells #[.int .u8 1] 5))
  have HR7 := hid (HV6.out.later HA7.out)
  have h7 := HA7.out.size
  go_wp2_with (at_builtin; refine app_any _ rfl _ _ rfl w6.heap.size _ [1] rfl HO7.out x2 y2 VI rfl HR7.out (by have := HVL.out; simp; omega) h7 ?_)
  intro v8 w8 ho8 hg8
  have HB8 := hid (HA7.out.grown hg8 h7 (fun j hj => (HO7.out.lt j hj).1))
  have HO8 : Hid (w8.ownsRow w6.heap.size 5 1 v8 ([1] ++ VI).length (([1] ++ VI).map (Value.int .u8))) := by
    show World.ownsRow _ _ _ _ _ _ _
    first | exact ho8 | (simp only [List.length_append, List.map_append, List.length_cons, List.length_nil, List.map_cons, List.map_nil] at ho8 ⊢; exact ho8) | simpa [Nat.add_comm] using ho8
  have HRB8 := hid (HR6.out.later HB8.out)
  have h8 := HB8.out.size
  have HLN8 : Hid (([1] ++ VI).length + PB.length ≤ 10000000) := by show _ ≤ _; have := HVL.out; have := HPL.out; simp; omega
  clear ho8 hg8 HO7 HA7 HR7 h7
  generalize hX1 : [1] ++ VI = X1 at *
  have HX1 := hid hX1
  clear hX1
  go_wp2_with (at_builtin; refine app_any _ rfl _ _ rfl w6.heap.size _ X1 rfl HO8.out x6 y6 PB rfl HRB8.out HLN8.out h8 ?_)
  intro v9 w9 ho9 hg9
  have HB9 := hid (HB8.out.grown hg9 h8 (fun j hj => (HO8.out.lt j hj).1))
  have HO9 : Hid (w9.ownsRow w6.heap.size 5 1 v9 (codB 1 len PB).length ((codB 1 len PB).map (Value.int .u8))) := by
    show World.ownsRow _ _ _ _ _ _ _
    rw [HCD.out 1 PB]
    rw [show ([((1 : Nat) : Int)] ++ VI) = X1 from HX1.out]
    first | exact ho9 | (simp only [List.length_append, List.map_append] at ho9 ⊢; exact ho9)
  obtain ⟨x9, y9, rfl, hr9⟩ := Ri.own HO9.out (fun j => wf_mk_u8 (HUB.out 1 (by omega) PB HPU.out j).1 (HUB.out 1 (by omega) PB HPU.out j).2)
  have HR9 := hid hr9
  have HR59 := hid (HR56.out.later HB9.out)
  have HBF := hid (Bn HB1.out (Bn HB16.out HB9.out))
  have HLC : Hid ((codB 1 len PB).length = 1 + VI.length + PB.length ∧ ST.length = 1 + VI.length + len) := by
    constructor
    · rw [HCD.out]; simp; omega
    · rw [← HST.out, HCD.out, HL.out]; simp; omega
  clear ho9 hg9 HO8 HB8 HRB8 h8 HLN8 hr9 HO9 HB9 HR56 HB16 HV6 HR6 HPU
  have HST2 : Hid (codB 0 len bs = ST) := HST
  by_cases hlt : PB.length < len
  · have HE1 : Hid (E = codB 1 len PB) := by show _ = _; rw [← HE.out, if_pos hlt]
    obtain ⟨pl, hpl⟩ : ∃ n, n = (codB 1 len PB).length := ⟨_, rfl⟩
    have HPL2 := hid hpl
    have hcmp : (pl : Int) < (sl : Int) := by have := HLC.out; have := HSL.out; omega
    rw [← hpl]
    clear hpl HE
    go_wp2_with fail
    go_ret2
    exact ⟨HBF.out, x9, y9, by rw [HE1.out, ← HPL2.out]; rfl, by rw [HE1.out]; exact HR9.out⟩
  · have HE1 : Hid (E = ST) := by show _ = _; rw [← HE.out, if_neg hlt]
    obtain ⟨pl, hpl⟩ : ∃ n, n = (codB 1 len PB).length := ⟨_, rfl⟩
    have hcmp : ¬ (pl : Int) < (sl : Int) := by have := HLC.out; have := HSL.out; omega
    rw [← hpl]
    clear hpl HE
    go_wp2_with fail
    go_ret2
    exact ⟨HBF.out, x5, y5, by rw [HE1.out, ← HSL.out]; rfl, by rw [HE1.out]; exact HR59.out⟩
end Go.Proofs.YtelnefngkdfcoaaGreat
