/-
  NamesRuns is proved for every input: whatever records are done, a namespace tells what the document says; no condition.
-/
import Derived.Test.YtcbjlnabbfkkeaaNmGg
import Derived.Test.YtcbjlnabbfkkeaaRcQa
namespace Go.Proofs.Ytcbjlnabbfkkeaa.namesRuns
open Go.ChangeShapes Go.WideShapes Go.ChangeAt Go.RowKit Go.Deep Go.Lib

theorem own : ownKnob Try.prog.godebug = none := by kernel_rfl
theorem Rw.nomap {w w' : World} {a : Option Addr} {cap g : Nat} {L : List Fi} {es : Array MapEntry} {c : Nat} (h : Rw 4 Fi.cs fiZ w a cap L) (hm : w.heap[g]? = some (.map es c)) (hg : w.grownBy w' (some g)) : Rw 4 Fi.cs fiZ w' a cap L := by
  refine ⟨h.room, h.most, h.none0, fun h0 => ?_⟩
  obtain ⟨b, off, ha, hbw, hc⟩ := h.cells h0
  have hne : b ≠ g := by
    intro e
    subst e
    have h3 := hc 0 h0 0 (.string (L.getD 0 fiZ).path) rfl
    simp [World.cell?, hm] at h3
  have hbl := hg.block b hbw (fun e => hne (by injection e))
  exact ⟨b, off, ha, Nat.lt_of_lt_of_le hbw hg.size, fun j hj k v hv => by rw [World.cell?_of_block (w' := w') (w := w) hbl]; exact hc j hj k v hv⟩
theorem _root_.Go.Proofs.Ytcbjlnabbfkkeaa.Dn.apply {B : Nat} {w w' : World} {n g d : Nat} {M : List Fl} {a : Option Addr} {cap : Nat} {L : List Fi} (h : Dn w d a cap L) (hn : Nm B w n g M) (hg : w.grownBy w' (some g)) : Dn w' d a cap L := by
  obtain ⟨es, c, hm⟩ := hn.map
  exact ⟨hn.keeps hg h.blk, ⟨Rw.nomap h.fs.row hm hg, fun f hf => (h.fs.ps f hf).nomap hm hg⟩⟩
theorem base {B B' : Nat} {w : World} {n g : Nat} (h : Nm B w n g []) : Nm B' w n g [] := by
  obtain ⟨D, h⟩ := h
  exact ⟨D, h.blk, h.own, h.has, h.at_, h.size, h.many, h.ok, (fun f hf => by cases hf), h.apart⟩
theorem cs_path {r : Rec} (h : r.prev.length = 32) : r.cs[36]? = some (.string r.path) := r.tail h 2
theorem few_40 (l : List Rec) : ∀ x ∈ fewL l, x.ps.length ≤ 40 := fun x hx => by
  unfold fewL at hx
  obtain ⟨y, _, rfl⟩ := List.mem_map.1 hx
  show (y.ps.take 40).length ≤ 40
  simp
  omega
set_option maxHeartbeats 12800000 in
set_option maxRecDepth 100000 in
theorem walk (a : Option Addr) (cap : Nat) (l : List Rec) (q p : ByteArray) (f : Int) (w1 : (Lit.int .i64 f).wf = true) (z : Int) (w2 : (Lit.int .i64 z).wf = true) (w : World) (hr : Rr w a cap l) (_ : q.size ≤ maxLen) (hp : p.size ≤ maxLen) :
    Calls Try.prog 3 #[.slice a l.length cap, .string q, .string p, .int .i64 f, .int .i64 z] w fun e w' => e = .returned (.bool true) ∧ Below w.heap.size w w' := by
  have HAL := hid (fun V => alive_word V)
  have HFEW := hid (few_word a cap l w hr)
  have h25 := fewL_len l
  have HF40 := hid (few_40 l)
  have HPP := hid hp
  have HW1 := hid w1
  have HW2 := hid w2
  clear hr hp w1 w2
  generalize fewL l = R at *
  go_enter Try.func3, Try.ntmps3
  go_wp2_with fail
  refine HFEW.out.mono ?_
  rintro _ W1 ⟨a1, cap1, rfl, hr1, _, hb1⟩
  have HR1 := hid hr1
  have HB1 := hid hb1
  obtain ⟨len, hle⟩ : ∃ n, n = R.length := ⟨_, rfl⟩
  have HLN := hid hle
  have hroom : len ≤ cap1 := by rw [hle]; exact hr1.room
  have hmost := hr1.most
  unfold maxLen at hmost
  rw [← hle] at h25 ⊢
  clear hr1 hb1 HFEW hle
  go_wp2_with fail
  refine (new_word 0 W1).mono ?_
  rintro _ V2 ⟨rfl, hn2, hb2⟩
  obtain ⟨g, hg⟩ : ∃ g, g = W1.heap.size := ⟨_, rfl⟩
  rw [← hg] at hn2 ⊢
  have HGL : Hid (W1.heap.size ≤ g) := Nat.le_of_eq hg.symm
  obtain ⟨n, hn⟩ : ∃ n, n = g + 1 := ⟨_, rfl⟩
  rw [← hn] at hn2 ⊢
  obtain ⟨d, hd⟩ : ∃ d, d = V2.heap.size := ⟨_, rfl⟩
  obtain ⟨B, hB⟩ : ∃ B, B = V2.heap.size + 1 := ⟨_, rfl⟩
  obtain ⟨W3, hW3⟩ : ∃ W3, W3 = V2.alloc (.cells #[.slice none 0 0] 29) := ⟨_, rfl⟩
  have hl2 := hn2.lt
  have HB3 : Hid (Below W1.heap.size W1 W3) := by show Below _ _ _; rw [hW3]; exact Bn hb2 (bel_alc V2 _)
  have HN3 : Hid (Nm B W3 n g []) := by show Nm _ _ _ _ _; rw [hW3]; exact (base hn2).later (bel_alc V2 _)
  have HD3 : Hid (Dn W3 d none 0 []) := by show Dn _ _ _ _ _; rw [hW3, hd]; exact ⟨heap_alc V2 _, ⟨Rw.nil _, fun i hi => by cases hi⟩⟩
  have HL3 : Hid (B ≤ W3.heap.size) := by show _ ≤ _; rw [hW3, hB]; simp
  have HDN : Hid (d ≠ n) := by show _ ≠ _; have := hl2.1; omega
  have HDG : Hid (d ≠ g) := by show _ ≠ _; have := hl2.2; omega
  have HDB : Hid (d < B) := by show _ < _; omega
  have HDL : Hid (W1.heap.size ≤ d) := by show _ ≤ _; rw [hd]; exact hb2.size
  have HW3 := hid hW3
  have HDD := hid hd
  clear hg hn hd hB hW3 hl2 hn2 hb2
  go_wp2
  rw [← HW3.out, ← HDD.out]
  go_loopw [13] (fun x13 wr => ∃ (k : Nat) (M : List Fl) (L : List Fi) (ad : Option Addr) (capd : Nat), k ≤ len ∧ x13 = .int .i64 (k : Int) ∧ Hid (Nm B wr n g M) ∧ Hid (Dn wr d ad capd L) ∧ Hid (Rel M L) ∧ Hid (L.length ≤ k) ∧ Hid (∀ i ∈ L, Iok i) ∧ Hid (Below W1.heap.size W1 wr) ∧ Hid (B ≤ wr.heap.size)) (fun x13 _ => len - (intOf x13).toNat)
  case atStart => exact ⟨0, [], [], none, 0, by omega, rfl, HN3.out, HD3.out, Rel.zero, Nat.le_refl _, (fun i hi => by cases hi), HB3.out, HL3.out⟩
  case round =>
    obtain ⟨k, M, L, ad, capd, hk, rfl, HN, HD, HREL, HLL, HIO, HB, HL⟩ := hrel
    clear HN3 HD3 HB3 HL3
    by_cases hlt : k < len
    · have hkz : (k : Int) < (len : Int) := by omega
      obtain ⟨b, off, rfl, hbw, hc⟩ := HR1.out.cells (by rw [← HLN.out]; omega)
      have hrg := hc k (by rw [← HLN.out]; exact hlt)
      have hrv := HR1.out.get (j := k) (by rw [← HLN.out]; exact hlt)
      have hx40 := HF40.out (R.getD k recZ) (by simp [List.getD, List.getElem?_eq_getElem (show k < R.length by rw [← HLN.out]; exact hlt)])
      obtain ⟨x, hx⟩ : ∃ x, x = R.getD k recZ := ⟨_, rfl⟩
      rw [← hx] at hrg hrv hx40
      have HX40 := hid hx40
      have HLX := hid (Rec.cs_len hrv.len)
      have HPX : Hid (x.path.size ≤ maxLen) := hrv.path
      have HRGX := hid (fun X (hX : Below W1.heap.size W1 X) => range_later hrg hX hbw)
      have HRV := hid (fun X (hX : Below W1.heap.size W1 X) => hrv.later hX)
      have HCP : Hid (∀ X, Below W1.heap.size W1 X → X.cell? ⟨b, off + k * 38 + 36, none⟩ = some (.string x.path)) := fun X hX => range_later hrg hX hbw 36 _ (cs_path hrv.len)
      clear hc hrg hrv hx hx40
      go_wp2_with (first | refine wpList_load_P rfl 36 _ rfl b (off + k * 38) rfl x.cs _ (HRGX.out _ HB.out) Try.underlying36 rfl (by rw [HLX.out]; exact Try.size36) ?_ | fail)
      refine (dmay_word wr d ad capd L HD.out x (HRV.out _ HB.out)).mono ?_
      rintro _ W4 ⟨rfl, hb4⟩
      have HB4 := hid (Bn HB.out hb4)
      have HN4 := hid (HN.out.later hb4)
      have HD4 := hid (HD.out.later hb4)
      have HL4 : Hid (B ≤ W4.heap.size) := Nat.le_trans HL.out hb4.size
      obtain ⟨E, hE⟩ : ∃ E, E = dmayE L x := ⟨_, rfl⟩
      have HMY : Hid (mayE M x = E) := by show _ = _; rw [hE, HREL.out.may]
      rw [← hE]
      clear hE hb4 HB HN HD HL
      go_wp2_with (first | refine wpList_load_P rfl 36 _ rfl b (off + k * 38) rfl x.cs _ (HRGX.out _ HB4.out) Try.underlying36 rfl (by rw [HLX.out]; exact Try.size36) ?_ | fail)
      refine (may_names W4 n g M B HN4.out x (HRV.out _ HB4.out) HPX.out).mono ?_
      rintro _ v5 ⟨rfl, hb5⟩
      have HB5 := hid (Bn HB4.out hb5)
      have HN5 := hid (HN4.out.later hb5)
      have HD5 := hid (HD4.out.later hb5)
      have HL5 : Hid (B ≤ v5.heap.size) := Nat.le_trans HL4.out hb5.size
      rw [HMY.out]
      clear hb5 HB4 HN4 HD4 HL4
      go_wp2_with (first | refine wpList_load_g rfl 36 _ rfl b (off + k * 38) rfl x.cs _ (HRGX.out _ HB5.out) Try.underlying36 rfl (by rw [HLX.out]; exact Try.size36) ?_ | fail)
      refine (apply_word v5 n g M B HN5.out x (HRV.out _ HB5.out) HL5.out).mono ?_
      rintro _ v14 ⟨rfl, M', hn14, ha14, hg14⟩
      have HS14 : Hid (Below W1.heap.size W1 v14) := HB5.out.trans (bel_grown hg14 HGL.out HB5.out.size)
      have HN14 := hid hn14
      have HA14 := hid ha14
      have HD14 := hid (HD5.out.apply HN5.out hg14)
      have HL14 : Hid (B ≤ v14.heap.size) := Nat.le_trans HL5.out hg14.size
      rw [HMY.out]
      clear hn14 ha14 hg14 HB5 HN5 HD5 HL5
      go_wp2_with (first | refine wpList_load_P rfl 36 _ rfl b (off + k * 38) rfl x.cs _ (HRGX.out _ HS14.out) Try.underlying36 rfl (by rw [HLX.out]; exact Try.size36) ?_ | fail)
      refine (dapply_word v14 d ad capd L HD14.out (by have := HLL.out; omega) x (HRV.out _ HS14.out)).mono ?_
      rintro _ W5 ⟨rfl, ad', capd', L', hd5, hp5, hg5⟩
      have HB5 : Hid (Below W1.heap.size W1 W5) := HS14.out.trans (bel_grown hg5 HDL.out HS14.out.size)
      have HN5 : Hid (Nm B W5 n g M') := HN14.out.grown hg5 HDN.out HDG.out HDB.out
      have HL5 : Hid (B ≤ W5.heap.size) := Nat.le_trans HL14.out hg5.size
      have HD5 := hid hd5
      have HREL2 : Hid (Rel M' L') := HREL.out.step HA14.out hp5
      have HIO2 : Hid (∀ i ∈ L', Iok i) := hp5.iok HX40.out HIO.out
      have HLK : Hid (L'.length ≤ k + 1) := by have h1 := hp5.len; have h2 := HLL.out; show _ ≤ _; omega
      have HLL2 : Hid (L'.length ≤ 1024) := by have := HLK.out; show _ ≤ _; omega
      clear hd5 hp5 hg5 HS14 HN14 HL14 HD14 HA14 HREL HIO HLL HRGX HRV HMY
      go_wp2_with fail
      refine (look_word W5 n g d M' B ad' capd' L' HN5.out HD5.out HREL2.out HIO2.out HLL2.out q p HPP.out f z HW1.out HW2.out).mono ?_
      rintro _ v6 ⟨rfl, hb6⟩
      have HB6 := hid (Bn HB5.out hb6)
      have HN6 := hid (HN5.out.later hb6)
      have HD6 := hid (HD5.out.later hb6)
      have HL6 : Hid (B ≤ v6.heap.size) := Nat.le_trans HL5.out hb6.size
      have hc6 := HCP.out _ HB6.out
      clear hb6 HB5 HN5 HD5 HL5
      go_wp2_with fail
      refine (look_word v6 n g d M' B ad' capd' L' HN6.out HD6.out HREL2.out HIO2.out HLL2.out ByteArray.empty x.path HPX.out f z HW1.out HW2.out).mono ?_
      rintro _ v9 ⟨rfl, hb9⟩
      have HB9 := hid (Bn HB6.out hb9)
      have HN9 := hid (HN6.out.later hb9)
      have HD9 := hid (HD6.out.later hb9)
      have HL9 : Hid (B ≤ v9.heap.size) := Nat.le_trans HL6.out hb9.size
      clear hb9 hc6 HB6 HN6 HD6 HL6
      go_wp2
      go_round
      case rel => exact ⟨k + 1, M', L', ad', capd', by omega, by go_num, HN9.out, HD9.out, HREL2.out, HLK.out, HIO2.out, HB9.out, HL9.out⟩
      case measure => simp [intOf]; omega
    · have hkl : k = len := by omega
      go_wp2_with fail
      refine (HAL.out wr).mono ?_
      rintro _ W9 ⟨rfl, hb9⟩
      have HB9 := hid (Bn (Bn HB1.out HB.out) hb9)
      clear hb9
      go_wp2
      go_ret
      exact ⟨rfl, HB9.out⟩
set_option maxRecDepth 100000 in
theorem lifted (os : Os) (started : os.Started) (H : Type) (enc : TypeId × Value → H) :
    ReturnsInHanded {} Try.checked os 3 .any (Rows.namesRunsSpec.pre6 enc Try.prog Try.f3 Rows.namesRunsRow.domain false) (Rows.namesRunsSpec.post enc Try.prog Try.f3 false true false false) := by
  refine returnsInHanded_of_change (C := Try.checked) own started (by kernel_rfl) Try.func3
    (ChangeSpec.witness6 (enc := enc) (C := Try.checked) false ⟨#[], #[.slice none 0 0, .string ⟨#[]⟩, .string ⟨#[]⟩, .int .i64 0, .int .i64 0], []⟩ 8 (by kernel_rfl) (by kernel_rfl) (by kernel_rfl) (by kernel_rfl)) ?_
  intro W base args ds gs before hval0 hW _ _
  have hval : ∀ (j : Nat) t v, Try.f3.params[j]? = some t → args[j]? = some v → Value.okWide Try.prog W .any base t v := hval0
  have hW' := hW
  obtain ⟨p, q, hA0, hV, rfl, _, _⟩ := hW
  have hA : DataW.TrodAll enc Try.prog W 0 (fun _ => true) true Try.f3.params.toList args.toList ds p := hA0
  rw [Try.params3] at hA hval
  obtain ⟨v0, vs0, d0, ds0, p0, q0, hargs, rfl, rfl, h0, r0⟩ := trodAll_cons hA
  obtain ⟨v1, vs1, d1, ds1, p1, q1, rfl, rfl, rfl, h1, r1⟩ := trodAll_cons r0
  obtain ⟨v2, vs2, d2, ds2, p2, q2, rfl, rfl, rfl, h2, r2⟩ := trodAll_cons r1
  obtain ⟨v3, vs3, d3, ds3, p3, q3, rfl, rfl, rfl, h3, r3⟩ := trodAll_cons r2
  obtain ⟨v4, vs4, d4, ds4, p4, q4, rfl, rfl, rfl, h4, r4⟩ := trodAll_cons r3
  obtain ⟨rfl, rfl, rfl⟩ := trodAll_nil r4
  obtain rfl : args = #[v0, v1, v2, v3, v4] := by cases args; simp_all
  obtain ⟨rfl, rfl⟩ := trodVars_none hV
  obtain ⟨a3, rfl, rfl, rfl, w3⟩ := open_int Try.underlying3 (hval 3 3 v3 rfl rfl) h3
  obtain ⟨a4, rfl, rfl, rfl, w4⟩ := open_int Try.underlying3 (hval 4 3 v4 rfl rfl) h4
  clear hA0
  simp only [List.append_nil] at hW'
  have hlt0 : ∀ x ∈ p0, x.block < W.heap.size := fun x hx => hW'.lt x (by simp [hx])
  have hk0 := h0
  obtain ⟨a0, cap0, l0, rfl, hr0⟩ := open_recs (hval 0 22 v0 rfl rfl) h0 hlt0
  have hlt1 : ∀ x ∈ p1, x.block < W.heap.size := fun x hx => hW'.lt x (by simp [hx])
  have hk1 := h1
  obtain ⟨x1, rfl, hr1⟩ := open_str (hval 1 9 v1 rfl rfl) h1
  have hlt2 : ∀ x ∈ p2, x.block < W.heap.size := fun x hx => hW'.lt x (by simp [hx])
  have hk2 := h2
  obtain ⟨x2, rfl, hr2⟩ := open_str (hval 2 9 v2 rfl rfl) h2
  clear hval0
  refine (walk a0 cap0 l0 x1 x2 a3 w3 a4 w4 W hr0 hr1 hr2).mono fun e W' ⟨he, hb⟩ => ?_
  subst he
  exact ⟨_, rfl, _, _, _, [] ++ [], _, [], hW', trodAll_cons_mk (shut_bool Try.underlying4 _) trodAll_mk0, (trodAll_cons_mk (Below.trod Try.laidOut (by kernel_rfl) (of_decide_eq_true (by kernel_rfl)) hk0 hb hlt0) (trodAll_cons_mk (Below.trod Try.laidOut (by kernel_rfl) (of_decide_eq_true (by kernel_rfl)) hk1 hb hlt1) (trodAll_cons_mk (Below.trod Try.laidOut (by kernel_rfl) (of_decide_eq_true (by kernel_rfl)) hk2 hb hlt2) (trodAll_cons_mk (shut_int Try.underlying3 w3) (trodAll_cons_mk (shut_int Try.underlying3 w4) trodAll_mk0))))), rfl, hb.frame _, fun h => by cases h⟩

theorem over : Rows.namesRunsRow.holds Try.pinned (OpenSpec.ofChange Rows.namesRunsSpec) :=
  OpenClaim.holds_of_wide 3 Try.f3 rfl rfl rfl rfl rfl rfl rfl ⟨rfl, rfl, rfl, rfl, rfl⟩ rfl rfl rfl rfl rfl (by kernel_rfl) Try.func3 (by kernel_rfl)
    (of_decide_eq_true (by kernel_rfl)) (by unfold Func.isWrapper; first | (rw [if_pos (by decide +kernel)]; kernel_rfl) | (rw [if_neg (by decide +kernel)]; exact ⟨rfl, rfl⟩))
    (fun os started H enc _ => lifted os started H enc)

end Go.Proofs.Ytcbjlnabbfkkeaa.namesRuns
namespace Go.Proofs.Ytcbjlnabbfkkeaa
theorem namesRuns_holds : Rows.NamesRunsSaid := namesRuns.over
#print axioms namesRuns_holds
end Go.Proofs.Ytcbjlnabbfkkeaa
