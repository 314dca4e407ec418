/-
  The document's Apply (14).
-/
import Derived.Test.YtcbjlnabbfkkeaaNmDa
namespace Go.Proofs.Ytcbjlnabbfkkeaa
open Go.ChangeShapes Go.WideShapes Go.ChangeAt Go.RowKit Go.Deep Go.Lib

set_option maxRecDepth 100000 in
/-- Behind the region that makes the file. -/
def AftF (W1 : World) (N d : Nat) (r : Rec) (ex : Exit) (A : Act) (V : World) : Prop :=
  ex = .normal ∧ ∃ (b7 : Nat) (a5 : Option Addr) (cap5 : Nat), V.heap[b7]? = some (.cells (Fi.cs (⟨r.path, 0, r.seq, r.ps, a5, cap5⟩ : Fi)).toArray 51) ∧ Rp V a5 cap5 r.ps ∧ Below W1.heap.size W1 V ∧ W1.heap.size ≤ b7 ∧ ∃ (u : Nat → Value), A = ⟨#[.pointer (some ⟨d, 0, none⟩), .agg r.cs.toArray, u 2, .pointer (some ⟨N, 0, none⟩), .int .i64 0, .int .i64 0, .slice none 0 0, .pointer (some ⟨b7, 0, none⟩), u 8, u 9, u 10, u 11, u 12, u 13, u 14, u 15, u 16, u 17, u 18, u 19, u 20, u 21, u 22, u 23, u 24, u 25, u 26, u 27, u 28, u 29, u 30, u 31, u 32, u 33, u 34, u 35, u 36, u 37, u 38, u 39, u 40, u 41, u 42, u 43, u 44, u 45, u 46, u 47, u 48, u 49, u 50, u 51, u 52, u 53, u 54, u 55, u 56, u 57, u 58, u 59, u 60, u 61, u 62, u 63, u 64, u 65, u 66, u 67, u 68, u 69, u 70, u 71, u 72, u 73, u 74, u 75, u 76, u 77, u 78, u 79, u 80, u 81, u 82, u 83, u 84, u 85, u 86, u 87, u 88, u 89, u 90, u 91, u 92, u 93], []⟩
set_option maxRecDepth 100000 in
theorem aftF_mk {W1 : World} {N d : Nat} {r : Rec} {V : World} (b7 : Nat) (a5 : Option Addr) (cap5 : Nat) (ts : Array Value) (h1 : V.heap[b7]? = some (.cells (Fi.cs (⟨r.path, 0, r.seq, r.ps, a5, cap5⟩ : Fi)).toArray 51)) (h2 : Rp V a5 cap5 r.ps) (h3 : Below W1.heap.size W1 V) (h4 : W1.heap.size ≤ b7)
    (hts : ts = #[.pointer (some ⟨d, 0, none⟩), .agg r.cs.toArray, ts.getD 2 undef, .pointer (some ⟨N, 0, none⟩), .int .i64 0, .int .i64 0, .slice none 0 0, .pointer (some ⟨b7, 0, none⟩), ts.getD 8 undef, ts.getD 9 undef, ts.getD 10 undef, ts.getD 11 undef, ts.getD 12 undef, ts.getD 13 undef, ts.getD 14 undef, ts.getD 15 undef, ts.getD 16 undef, ts.getD 17 undef, ts.getD 18 undef, ts.getD 19 undef, ts.getD 20 undef, ts.getD 21 undef, ts.getD 22 undef, ts.getD 23 undef, ts.getD 24 undef, ts.getD 25 undef, ts.getD 26 undef, ts.getD 27 undef, ts.getD 28 undef, ts.getD 29 undef, ts.getD 30 undef, ts.getD 31 undef, ts.getD 32 undef, ts.getD 33 undef, ts.getD 34 undef, ts.getD 35 undef, ts.getD 36 undef, ts.getD 37 undef, ts.getD 38 undef, ts.getD 39 undef, ts.getD 40 undef, ts.getD 41 undef, ts.getD 42 undef, ts.getD 43 undef, ts.getD 44 undef, ts.getD 45 undef, ts.getD 46 undef, ts.getD 47 undef, ts.getD 48 undef, ts.getD 49 undef, ts.getD 50 undef, ts.getD 51 undef, ts.getD 52 undef, ts.getD 53 undef, ts.getD 54 undef, ts.getD 55 undef, ts.getD 56 undef, ts.getD 57 undef, ts.getD 58 undef, ts.getD 59 undef, ts.getD 60 undef, ts.getD 61 undef, ts.getD 62 undef, ts.getD 63 undef, ts.getD 64 undef, ts.getD 65 undef, ts.getD 66 undef, ts.getD 67 undef, ts.getD 68 undef, ts.getD 69 undef, ts.getD 70 undef, ts.getD 71 undef, ts.getD 72 undef, ts.getD 73 undef, ts.getD 74 undef, ts.getD 75 undef, ts.getD 76 undef, ts.getD 77 undef, ts.getD 78 undef, ts.getD 79 undef, ts.getD 80 undef, ts.getD 81 undef, ts.getD 82 undef, ts.getD 83 undef, ts.getD 84 undef, ts.getD 85 undef, ts.getD 86 undef, ts.getD 87 undef, ts.getD 88 undef, ts.getD 89 undef, ts.getD 90 undef, ts.getD 91 undef, ts.getD 92 undef, ts.getD 93 undef]) : AftF W1 N d r .normal ⟨ts, []⟩ V :=
  ⟨rfl, b7, a5, cap5, h1, h2, h3, h4, fun i => ts.getD i undef, congrArg (fun x => (⟨x, []⟩ : Act)) hts⟩
theorem aftF_no {W1 : World} {N d : Nat} {r : Rec} {c : List PanicEntry} {a : Act} {w : World} (h : AftF W1 N d r (.panic c) a w) : False := by
  cases h.1
theorem setCell_grown (w : World) (b off : Nat) (v : Value) : w.grownBy (w.setCell ⟨b, off, none⟩ v) (some b) := by
  rw [Sort.setCell_eq]
  refine ⟨rfl, rfl, rfl, ?_, fun k hk hne => ?_⟩
  · unfold Sort.mapBlock
    simp
  · have hgk : b ≠ k := fun e => hne (by rw [e])
    show (w.heap.modify b _)[k]? = w.heap[k]?
    rw [Array.getElem?_modify, if_neg hgk]
theorem dmay_zero {L : List Fi} {r : Rec} (h : dmayE L r = 0) : mayB r = true := by
  unfold dmayE mayG at h
  cases hb : mayB r with
  | true => rfl
  | false => rw [hb, if_pos rfl] at h; cases h
theorem may_kinds {r : Rec} (h : mayB r = true) : r.kind = 1 ∨ r.kind = 2 ∨ r.kind = 3 := by
  unfold mayB at h
  rw [Bool.and_eq_true] at h
  have hk := h.2
  unfold kindB at hk
  by_cases h1 : r.kind = 1
  · exact .inl h1
  · rw [if_neg h1] at hk
    by_cases h3 : r.kind = 3
    · exact .inr (.inr h3)
    · rw [if_neg h3] at hk
      by_cases h2 : r.kind = 2
      · exact .inr (.inl h2)
      · rw [if_neg h2] at hk; cases hk
set_option maxHeartbeats 12800000 in
set_option maxRecDepth 100000 in
theorem dapply_word (W : World) (d : Nat) (a : Option Addr) (cap : Nat) (L : List Fi) (h : Dn W d a cap L) (hL : L.length ≤ 1024) (r : Rec) (hr : Rv W r) :
    Calls Try.prog 14 #[.pointer (some ⟨d, 0, none⟩), .agg r.cs.toArray] W fun e w' => e = .returned (.int .i64 (dmayE L r)) ∧ ∃ a' cap' L', Dn w' d a' cap' L' ∧ DApp r L L' ∧ W.grownBy w' (some d) := by
  have HB := hid (bel_alc W (.cells r.cs.toArray 36))
  have HX := hid (Bx.mk' W r hr.len)
  have HLL := hid (Rec.cs_len hr.len)
  have HDn := hid (h.later HB.out)
  have HRV := hid (hr.later HB.out)
  have HMY := hid (dmay_word _ d a cap L (h.later HB.out) r (hr.later HB.out))
  have HLD := hid HX.out.range
  have HDW : Hid (d < W.heap.size) := (Array.getElem?_eq_some_iff.1 h.blk).1
  have HLM := hid hL
  have HY := hid Try.zero51
  obtain ⟨E, hE⟩ : ∃ E, E = dmayE L r := ⟨_, rfl⟩
  have HE := hid hE
  rw [← hE] at HMY ⊢
  clear h hr hE hL
  go_enter Try.func14, Try.ntmps14
  go_wp2_with (first | refine wpList_load_P rfl 36 _ rfl W.heap.size 0 rfl r.cs _ HLD.out Try.underlying36 rfl (by rw [HLL.out]; exact Try.size36) ?_ | fail)
  refine HMY.out.mono ?_
  rintro _ W1 ⟨rfl, hb1⟩
  have HB1 := hid (HB.out.trans (hb1.mono HB.out.size))
  have HX1 := hid (HX.out.later hb1)
  have HD1 := hid (HDn.out.later hb1)
  have HRV1 := hid (HRV.out.later hb1)
  clear hb1 HMY HX HDn HLD HB HRV
  by_cases hE0 : E = 0
  · have HMB := hid (dmay_zero (HE.out.symm.trans hE0))
    have HFW := hid (may_few HMB.out (may_kinds HMB.out))
    have HRP := hid HRV1.out.row
    have HBX := hid (fun X (hX : Below W1.heap.size W1 X) => HX1.out.later hX)
    subst hE0
    go_wp2
    refine Code.wp_mono (Q := AftF W1 W.heap.size d r) ?_ ?_
    · intro ex A V hq
      obtain ⟨rfl, b7, a5, cap5, hfi, hrp5, hb5, hb7, u, rfl⟩ := hq
      have hsg := setCell_grown V b7 1 (.int .i64 (sizO r.ps).1)
      have hb6 : Below W1.heap.size W1 (V.setCell ⟨b7, 1, none⟩ (.int .i64 (sizO r.ps).1)) := hb5.trans (bel_grown hsg hb7 hb5.size)
      have hwl : W.heap.size < W1.heap.size := (Array.getElem?_eq_some_iff.1 HX1.out.blk).1
      have HBX5 := hid (HX1.out.later hb5)
      have c37 := HBX5.out.c37
      have c1 : V.cell? ⟨b7, 1, none⟩ = some (.int .i64 0) := (Joins.cell_of_block hfi 1).trans rfl
      have u1 := Joins.unfrozen_of_block hfi 1
      have c34 := (HX1.out.later hb6).c34
      have HRS := hid (HRV1.out.row.later hb5)
      obtain ⟨V6, hV6⟩ : ∃ V6, V6 = V.setCell ⟨b7, 1, none⟩ (.int .i64 (sizO r.ps).1) := ⟨_, rfl⟩
      have HV6 := hid hV6
      have hfi6 := fi_size hfi (sizO r.ps).1
      have hrp6 := hrp5.grown hsg (fun h0 b o e => hrp5.ne hfi (Fi.no8 _) h0 b o e)
      rw [← hV6] at hfi6 hrp6 hb6
      obtain ⟨F, hF⟩ : ∃ F : Fi, F = ⟨r.path, (sizO r.ps).1, r.seq, r.ps, a5, cap5⟩ := ⟨_, rfl⟩
      have HFE : Hid (F.path = r.path ∧ F.size = (sizO r.ps).1 ∧ F.seq = r.seq ∧ F.ps = r.ps) := by rw [hF]; exact ⟨rfl, rfl, rfl, rfl⟩
      have HFR : Hid (Rp V6 F.a F.cap F.ps) := by rw [hF]; exact hrp6
      have HF6 : Hid (V6.heap[b7]? = some (.cells F.cs.toArray 51)) := by rw [hF]; exact hfi6
      have HF7 := hid (fun X (hX : Below V6.heap.size V6 X) => blk_later HF6.out hX)
      have HB6 := hid hb6
      have HD6 := hid (HD1.out.later hb6)
      have HX6 := hid (HX1.out.later hb6)
      obtain ⟨i1, hi1, hy0, hy1, hy2⟩ := info_parts Try.info51
      obtain ⟨n, hn⟩ : ∃ n, n = L.length := ⟨_, rfl⟩
      have HN := hid hn
      have hn1 : n ≤ 1024 := by rw [hn]; exact HLM.out
      have hblk := HD6.out.blk
      rw [← hn] at hblk
      have HCD := hid (fun X (hX : Below V6.heap.size V6 X) => (Joins.cell_of_block (blk_later hblk hX) 0).trans (show _ = some (Value.slice a n cap) from rfl))
      have HDB := hid hblk
      have HC36 := hid (fun X (hX : Below V6.heap.size V6 X) => (HX6.out.later hX).c36)
      have hnc : n ≤ cap := by rw [hn]; exact HD6.out.fs.row.room
      obtain ⟨R0, hR0⟩ : ∃ R0, R0 = dins r.path F (!decide (r.kind = 2)) L := ⟨_, rfl⟩
      have HR0 := hid hR0
      have HKD := hid (may_kinds HMB.out)
      clear hV6 hsg hb5 hwl hfi hrp5 hfi6 hrp6 hF hb6 hn hblk hR0 HX6 hb7 HY
      go_wp2_with fail
      refine (dsize_word r.a r.cap r.ps V HRS.out).mono ?_
      rintro _ w0 ⟨rfl, hw⟩
      obtain rfl := hw.symm
      clear hw HRS
      go_wp2
      rw [← HV6.out]
      go_loopw [6, 8, 9] (fun x6 x8 x9 wr => ∃ (k : Nat) (acc : List Fi) (p : Bool), k ≤ n ∧ acc.length ≤ k + p.toNat ∧ x8 = .bool p ∧ x9 = .int .i64 (k : Int) ∧ Hid (wr.ownsRow V6.heap.size 51 4 x6 acc.length (acc.flatMap Fi.cs)) ∧ Hid (acc ++ dins r.path F p (L.drop k) = R0) ∧ Hid (∀ i ∈ acc, i = F ∨ i ∈ L) ∧ Hid (Below V6.heap.size V6 wr)) (fun _ _ x9 _ => n - (intOf x9).toNat)
      case atStart =>
        refine ⟨0, [], _, by omega, by simp, rfl, rfl, World.ownsRow_nil _ _ _ _, ?_, (fun i hi => by cases hi), Below.refl _ _⟩
        show _ = _
        rw [HR0.out]
        have hb : (!decide (r.kind = 2)) = (r.kind != 2) := by
          by_cases h2 : r.kind = 2
          · rw [h2]; rfl
          · rw [decide_eq_false h2, (bne_iff_ne).2 h2]; rfl
        rw [hb]
        rfl
      case round =>
        obtain ⟨k, acc, p, hk, hac, rfl, rfl, HO, HA, HM, HB⟩ := hrel
        by_cases hkn : k < n
        · have hkz : (k : Int) < (n : Int) := by omega
          obtain ⟨x, hx⟩ : ∃ x, x = L.getD k fiZ := ⟨_, rfl⟩
          obtain ⟨b, o, ha, _, hcx, _, _, _⟩ := fi_cells HD6.out.fs (i := k) (by rw [← HN.out]; exact hkn) hx
          subst ha
          have HCX := hid hcx
          have HXR : Hid (∀ X, Below V6.heap.size V6 X → X.rangeAt b (o + k * 4) x.cs) := fun X hX => by
            obtain ⟨b2, o2, e, hb2, hc2⟩ := HD6.out.fs.row.cells (by rw [← HN.out]; omega)
            injection e with e
            injection e with e1 e2
            subst e1
            subst e2
            have h1 := hc2 k (by rw [← HN.out]; exact hkn)
            rw [← hx] at h1
            exact range_later h1 hX hb2
          have HXM : Hid (x ∈ L) := by show x ∈ L; rw [hx]; simp [List.getD, List.getElem?_eq_getElem (show k < L.length by rw [← HN.out]; exact hkn)]
          have HA2 : Hid (acc ++ ((if (!p && geP x.path r.path) = true then [F] else []) ++ ((if x.path = r.path then [] else [x]) ++ dins r.path F (p || geP x.path r.path) (L.drop (k + 1)))) = R0) := by
            have h1 := HA.out
            rw [List.drop_eq_getElem_cons (show k < L.length by rw [← HN.out]; exact hkn)] at h1
            have h2 : L[k]'(by rw [← HN.out]; exact hkn) = x := by rw [hx]; simp [List.getD, List.getElem?_eq_getElem (show k < L.length by rw [← HN.out]; exact hkn)]
            rw [h2] at h1
            exact h1
          have cd := HCD.out _ HB.out
          clear hx hcx HA
          cases p with
          | true =>
            have hac : acc.length ≤ k + 1 := hac
            go_wp2_with fail
            refine wp_region_held_drew (S := fun X => Below V6.heap.size V6 X) (by kernel_rfl) (bel_drewS HB.out) (fun hS_v0 => ?_)
            have hB_v0 : Below wr.heap.size wr wr.drew := (Below.refl _ _).drew
            generalize wr.drew = v0 at *
            simp only [List.size_toArray, List.length_cons, List.length_nil, Nat.reduceAdd]
            refine Ord.take (i := 0) (d := 44) (v := ?vP0) rfl rfl (by as_aux_lemma => kernel_rfl) (by as_aux_lemma => kernel_rfl) (by as_aux_lemma => kernel_rfl) (fun _ _ _ h => h) (by rfl) ?hP0 (by assumption) ?_
            case hP0 => intro wx hSw; go_simp; try with_reducible rfl
            try simp only [List.setIfInBounds_toArray, List.set_cons_zero, List.set_cons_succ]
            refine Ord.take (i := 1) (d := 45) (v := ?vP1) rfl rfl (by as_aux_lemma => kernel_rfl) (by as_aux_lemma => kernel_rfl) (by as_aux_lemma => kernel_rfl) (fun _ _ _ h => h) (by rfl) ?hP1 (by assumption) ?_
            case hP1 => intro wx hSw; go_simp; try with_reducible rfl
            try simp only [List.setIfInBounds_toArray, List.set_cons_zero, List.set_cons_succ]
            refine Ord.take (i := 2) (d := 46) (v := ?vP2) rfl rfl (by as_aux_lemma => kernel_rfl) (by as_aux_lemma => kernel_rfl) (by as_aux_lemma => kernel_rfl) (fun _ _ _ h => h) (by rfl) ?hP2 (by assumption) ?_
            case hP2 => intro wx hSw; go_simp; try with_reducible rfl
            try simp only [List.setIfInBounds_toArray, List.set_cons_zero, List.set_cons_succ]
            refine Ord.skip (i := 3) (d := 47) rfl rfl (by as_aux_lemma => kernel_rfl) (by as_aux_lemma => kernel_rfl) (by as_aux_lemma => kernel_rfl) (fun _ _ _ h => h) (by rfl) (by assumption) ?_
            try simp only [List.setIfInBounds_toArray, List.set_cons_zero, List.set_cons_succ]
            refine Ord.skip (i := 4) (d := 48) rfl rfl (by as_aux_lemma => kernel_rfl) (by as_aux_lemma => kernel_rfl) (by as_aux_lemma => kernel_rfl) (fun _ _ _ h => h) (by rfl) (by assumption) ?_
            try simp only [List.setIfInBounds_toArray, List.set_cons_zero, List.set_cons_succ]
            refine Ord.skip (i := 5) (d := 49) rfl rfl (by as_aux_lemma => kernel_rfl) (by as_aux_lemma => kernel_rfl) (by as_aux_lemma => kernel_rfl) (fun _ _ _ h => h) (by rfl) (by assumption) ?_
            try simp only [List.setIfInBounds_toArray, List.set_cons_zero, List.set_cons_succ]
            refine Ord.skip (i := 6) (d := 50) rfl rfl (by as_aux_lemma => kernel_rfl) (by as_aux_lemma => kernel_rfl) (by as_aux_lemma => kernel_rfl) (fun _ _ _ h => h) (by rfl) (by assumption) ?_
            try simp only [List.setIfInBounds_toArray, List.set_cons_zero, List.set_cons_succ]
            refine Ord.skip (i := 7) (d := 51) rfl rfl (by as_aux_lemma => kernel_rfl) (by as_aux_lemma => kernel_rfl) (by as_aux_lemma => kernel_rfl) (fun _ _ _ h => h) (by rfl) (by assumption) ?_
            try simp only [List.setIfInBounds_toArray, List.set_cons_zero, List.set_cons_succ]
            refine Ord.skip (i := 8) (d := 52) rfl rfl (by as_aux_lemma => kernel_rfl) (by as_aux_lemma => kernel_rfl) (by as_aux_lemma => kernel_rfl) (fun _ _ _ h => h) (by rfl) (by assumption) ?_
            try simp only [List.setIfInBounds_toArray, List.set_cons_zero, List.set_cons_succ]
            refine Ord.skip (i := 9) (d := 53) rfl rfl (by as_aux_lemma => kernel_rfl) (by as_aux_lemma => kernel_rfl) (by as_aux_lemma => kernel_rfl) (fun _ _ _ h => h) (by rfl) (by assumption) ?_
            try simp only [List.setIfInBounds_toArray, List.set_cons_zero, List.set_cons_succ]
            refine Ord.skip (i := 10) (d := 54) rfl rfl (by as_aux_lemma => kernel_rfl) (by as_aux_lemma => kernel_rfl) (by as_aux_lemma => kernel_rfl) (fun _ _ _ h => h) (by rfl) (by assumption) ?_
            try simp only [List.setIfInBounds_toArray, List.set_cons_zero, List.set_cons_succ]
            refine Ord.skip (i := 11) (d := 55) rfl rfl (by as_aux_lemma => kernel_rfl) (by as_aux_lemma => kernel_rfl) (by as_aux_lemma => kernel_rfl) (fun _ _ _ h => h) (by rfl) (by assumption) ?_
            try simp only [List.setIfInBounds_toArray, List.set_cons_zero, List.set_cons_succ]
            refine Ord.skip (i := 12) (d := 56) rfl rfl (by as_aux_lemma => kernel_rfl) (by as_aux_lemma => kernel_rfl) (by as_aux_lemma => kernel_rfl) (fun _ _ _ h => h) (by rfl) (by assumption) ?_
            try simp only [List.setIfInBounds_toArray, List.set_cons_zero, List.set_cons_succ]
            refine Ord.skip (i := 13) (d := 57) rfl rfl (by as_aux_lemma => kernel_rfl) (by as_aux_lemma => kernel_rfl) (by as_aux_lemma => kernel_rfl) (fun _ _ _ h => h) (by rfl) (by assumption) ?_
            try simp only [List.setIfInBounds_toArray, List.set_cons_zero, List.set_cons_succ]
            refine Ord.take (i := 14) (d := 58) (v := .bool false) rfl rfl (by as_aux_lemma => kernel_rfl) (by as_aux_lemma => kernel_rfl) (by as_aux_lemma => kernel_rfl) (fun _ _ _ h => h) (by rfl) ?hP14 (by assumption) ?_
            case hP14 => intro wx hSw; go_simp; try with_reducible rfl
            try simp only [List.setIfInBounds_toArray, List.set_cons_zero, List.set_cons_succ]
            refine wpAnyH_done (by as_aux_lemma => kernel_rfl) ?_ _
            have HOW := hid (own_later HO.out hB_v0)
            go_wp2_with fail
            refine wp_region_held_drew (S := fun X => Below V6.heap.size V6 X) (by kernel_rfl) (bel_drewS hS_v0) (fun hS_v0n => ?_)
            have hB_v0n : Below v0.heap.size v0 v0.drew := (Below.refl _ _).drew
            generalize v0.drew = v0n at *
            simp only [List.size_toArray, List.length_cons, List.length_nil, Nat.reduceAdd]
            refine Ord.take (i := 0) (d := 63) (v := ?vQ0) rfl rfl (by as_aux_lemma => kernel_rfl) (by as_aux_lemma => kernel_rfl) (by as_aux_lemma => kernel_rfl) (fun _ _ _ h => h) (by rfl) ?hQ0 (by assumption) ?_
            case hQ0 => intro wx hSw; go_simp; try with_reducible rfl
            try simp only [List.setIfInBounds_toArray, List.set_cons_zero, List.set_cons_succ]
            refine Ord.take (i := 1) (d := 64) (v := ?vQ1) rfl rfl (by as_aux_lemma => kernel_rfl) (by as_aux_lemma => kernel_rfl) (by as_aux_lemma => kernel_rfl) (fun _ _ _ h => h) (by rfl) ?hQ1 (by assumption) ?_
            case hQ1 => intro wx hSw; go_simp; try with_reducible rfl
            try simp only [List.setIfInBounds_toArray, List.set_cons_zero, List.set_cons_succ]
            refine Ord.take (i := 2) (d := 65) (v := ?vQ2) rfl rfl (by as_aux_lemma => kernel_rfl) (by as_aux_lemma => kernel_rfl) (by as_aux_lemma => kernel_rfl) (fun _ _ _ h => h) (by rfl) ?hQ2 (by assumption) ?_
            case hQ2 => intro wx hSw; go_simp; try with_reducible rfl
            try simp only [List.setIfInBounds_toArray, List.set_cons_zero, List.set_cons_succ]
            refine Ord.take (i := 3) (d := 66) (v := .slice (some ⟨b, o, none⟩) n cap) rfl rfl (by as_aux_lemma => kernel_rfl) (by as_aux_lemma => kernel_rfl) (by as_aux_lemma => kernel_rfl) (fun _ _ _ h => h) (by rfl) ?hQ3 (by assumption) ?_
            case hQ3 => intro wx hSw; have hc := HCD.out _ hSw; go_simp; try with_reducible rfl
            try simp only [List.setIfInBounds_toArray, List.set_cons_zero, List.set_cons_succ]
            refine Ord.take (i := 4) (d := 67) (v := ?vQ4) rfl rfl (by as_aux_lemma => kernel_rfl) (by as_aux_lemma => kernel_rfl) (by as_aux_lemma => kernel_rfl) (fun _ _ _ h => h) (by rfl) ?hQ4 (by assumption) ?_
            case hQ4 => intro wx hSw; go_simp; try with_reducible rfl
            try simp only [List.setIfInBounds_toArray, List.set_cons_zero, List.set_cons_succ]
            refine Ord.take (i := 5) (d := 68) (v := .pointer (some ⟨b, o + k * 4, none⟩)) rfl rfl (by as_aux_lemma => kernel_rfl) (by as_aux_lemma => kernel_rfl) (by as_aux_lemma => kernel_rfl) (fun _ _ _ h => h) (by rfl) ?hQ5 (by assumption) ?_
            case hQ5 => intro wx hSw; go_simp; try with_reducible rfl
            try simp only [List.setIfInBounds_toArray, List.set_cons_zero, List.set_cons_succ]
            refine Ord.take (i := 6) (d := 69) (v := .pointer (some ⟨b, o + k * 4, none⟩)) rfl rfl (by as_aux_lemma => kernel_rfl) (by as_aux_lemma => kernel_rfl) (by as_aux_lemma => kernel_rfl) (fun _ _ _ h => h) (by rfl) ?hQ6 (by assumption) ?_
            case hQ6 => intro wx hSw; go_simp; try with_reducible rfl
            try simp only [List.setIfInBounds_toArray, List.set_cons_zero, List.set_cons_succ]
            refine Ord.take (i := 7) (d := 70) (v := .string x.path) rfl rfl (by as_aux_lemma => kernel_rfl) (by as_aux_lemma => kernel_rfl) (by as_aux_lemma => kernel_rfl) (fun _ _ _ h => h) (by rfl) ?hQ7 (by assumption) ?_
            case hQ7 => intro wx hSw; have hc := HCX.out _ hSw; go_simp; try with_reducible rfl
            try simp only [List.setIfInBounds_toArray, List.set_cons_zero, List.set_cons_succ]
            refine Ord.take (i := 8) (d := 71) (v := .pointer (some ⟨W.heap.size, 36, none⟩)) rfl rfl (by as_aux_lemma => kernel_rfl) (by as_aux_lemma => kernel_rfl) (by as_aux_lemma => kernel_rfl) (fun _ _ _ h => h) (by rfl) ?hQ8 (by assumption) ?_
            case hQ8 => intro wx hSw; go_simp; try with_reducible rfl
            try simp only [List.setIfInBounds_toArray, List.set_cons_zero, List.set_cons_succ]
            refine Ord.take (i := 9) (d := 72) (v := .string r.path) rfl rfl (by as_aux_lemma => kernel_rfl) (by as_aux_lemma => kernel_rfl) (by as_aux_lemma => kernel_rfl) (fun _ _ _ h => h) (by rfl) ?hQ9 (by assumption) ?_
            case hQ9 => intro wx hSw; have hc := HC36.out _ hSw; go_simp; try with_reducible rfl
            try simp only [List.setIfInBounds_toArray, List.set_cons_zero, List.set_cons_succ]
            refine Ord.take (i := 10) (d := 73) (v := .bool (!(x.path.toList == r.path.toList))) rfl rfl (by as_aux_lemma => kernel_rfl) (by as_aux_lemma => kernel_rfl) (by as_aux_lemma => kernel_rfl) (fun _ _ _ h => h) (by rfl) ?hQ10 (by assumption) ?_
            case hQ10 => intro wx hSw; go_simp; try with_reducible rfl
            try simp only [List.setIfInBounds_toArray, List.set_cons_zero, List.set_cons_succ]
            refine wpAnyH_done (by as_aux_lemma => kernel_rfl) ?_ _
            obtain ⟨q, hq⟩ : ∃ q, q = (x.path.toList == r.path.toList) := ⟨_, rfl⟩
            rw [← hq]
            have HQ := hid hq
            clear hq
            cases q with
            | true =>
              have hxr : x.path = r.path := ba_inj (eq_of_beq HQ.out.symm)
              have HEQ : Hid ((acc) ++ dins r.path F true (L.drop (k + 1)) = R0) := by
                have h := HA2.out
                try rw [hge] at h
                show _ = _
                simpa [Bool.not_true, Bool.false_and, Bool.true_or, hxr] using h
              have HME : Hid (∀ i ∈ acc, i = F ∨ i ∈ L) := fun i hi => by
                exact HM.out i hi
              have HSE := hid hS_v0n
              go_wp2
              go_roundw
              case rel => exact ⟨k + 1, acc, true, by omega, (by show _ ≤ k + 1 + 1; first | omega | (simp; omega)), rfl, by go_num, (own_later HOW.out hB_v0n), HEQ.out, HME.out, HSE.out⟩
              case measure => simp [intOf]; omega
            | false =>
              have hxr : ¬ x.path = r.path := fun e => by
                have h := HQ.out
                rw [e, beq_self_eq_true] at h
                cases h
              have cdv0n := HCD.out _ hS_v0n
              have HBA_v0n := hid (bel_alc v0n (.cells x.cs.toArray 51))
              have HOA_v0n := hid (own_later (own_later HOW.out hB_v0n) HBA_v0n.out)
              have HNW_v0n : Hid (∀ j u, x.cs[j]? = some u → (v0n.alloc (.cells x.cs.toArray 51)).cell? ((⟨v0n.heap.size, 0, none⟩ : Addr).add j) = some u) := fun j u hu => by
                rw [add_plain, Nat.zero_add]
                exact (Joins.cell_of_block (heap_alc v0n _) j).trans (by rw [List.getElem?_toArray]; exact hu)
              have HZ_v0n : Hid (V6.heap.size ≤ (v0n.alloc (.cells x.cs.toArray 51)).heap.size) := Nat.le_trans hS_v0n.size HBA_v0n.out.size
              have HS_v0n := hid hS_v0n
              have hal : (acc).length ≤ 2000 := by first | omega | (simp; omega)
              have HAL := hid hal
              clear hal
              go_wp2_with (first | refine wpList_load_P rfl 51 _ rfl b (o + k * 4) rfl x.cs _ (HXR.out _ hS_v0n) Try.underlying51 rfl Try.size51 ?_ | refine wpList_buildOne rfl 27 51 _ rfl (some 82) rfl x.cs.toArray i1 _ Try.underlying27 hi1 hy0 (hy1.trans rfl) (show 0 < 4 from by decide) (show 4 ≤ 1000 from by decide) rfl ?_ | (at_builtin; refine wpList_append_own _ rfl _ _ 27 rfl V6.heap.size 51 i1 _ 4 56 Try.underlying27 hi1 hy0 hy1 hy2 rfl (by decide) _ (acc).length _ rfl HOA_v0n.out ⟨v0n.heap.size, 0, none⟩ 1 1 x.cs rfl rfl HNW_v0n.out (fun u hu => List.all_eq_true.1 (by simpa using Fi.one x) u hu) (by have := HAL.out; unfold maxLen; omega) (by have := HAL.out; omega) HZ_v0n.out ?_) | fail)
              intro yv0m v0m ho hg _
              have HO_v0m : Hid (v0m.ownsRow V6.heap.size 51 4 yv0m (acc ++ [x]).length ((acc ++ [x]).flatMap Fi.cs)) := by
                show World.ownsRow _ _ _ _ _ _ _
                rw [List.length_append, List.flatMap_append]
                simpa using ho
              have hS_v0m : Below V6.heap.size V6 v0m := (hS_v0n.trans (HBA_v0n.out.mono hS_v0n.size)).trans ((Below.refl _ _).grown hg HZ_v0n.out (fun j hj => (HOA_v0n.out.lt j hj).1))
              clear ho hg HOA_v0n HNW_v0n HAL
              have HEQ : Hid ((acc ++ [x]) ++ dins r.path F true (L.drop (k + 1)) = R0) := by
                have h := HA2.out
                try rw [hge] at h
                show _ = _
                simpa [Bool.not_true, Bool.false_and, Bool.true_or, hxr] using h
              have HME : Hid (∀ i ∈ acc ++ [x], i = F ∨ i ∈ L) := fun i hi => by
                simp only [List.mem_append, List.mem_singleton] at hi
                rcases hi with hi | hi
                · exact HM.out i hi
                · rw [hi]; exact .inr HXM.out
              have HSE := hid hS_v0m
              go_wp2
              go_roundw
              case rel => exact ⟨k + 1, acc ++ [x], true, by omega, (by show _ ≤ k + 1 + 1; first | omega | (simp; omega)), rfl, by go_num, HO_v0m.out, HEQ.out, HME.out, HSE.out⟩
              case measure => simp [intOf]; omega
          | false =>
            have hac : acc.length ≤ k := hac
            go_wp2_with fail
            refine wp_region_held_drew (S := fun X => Below V6.heap.size V6 X) (by kernel_rfl) (bel_drewS HB.out) (fun hS_v0 => ?_)
            have hB_v0 : Below wr.heap.size wr wr.drew := (Below.refl _ _).drew
            generalize wr.drew = v0 at *
            simp only [List.size_toArray, List.length_cons, List.length_nil, Nat.reduceAdd]
            refine Ord.take (i := 0) (d := 44) (v := ?vR0) rfl rfl (by as_aux_lemma => kernel_rfl) (by as_aux_lemma => kernel_rfl) (by as_aux_lemma => kernel_rfl) (fun _ _ _ h => h) (by rfl) ?hR0 (by assumption) ?_
            case hR0 => intro wx hSw; go_simp; try with_reducible rfl
            try simp only [List.setIfInBounds_toArray, List.set_cons_zero, List.set_cons_succ]
            refine Ord.take (i := 1) (d := 45) (v := ?vR1) rfl rfl (by as_aux_lemma => kernel_rfl) (by as_aux_lemma => kernel_rfl) (by as_aux_lemma => kernel_rfl) (fun _ _ _ h => h) (by rfl) ?hR1 (by assumption) ?_
            case hR1 => intro wx hSw; go_simp; try with_reducible rfl
            try simp only [List.setIfInBounds_toArray, List.set_cons_zero, List.set_cons_succ]
            refine Ord.take (i := 2) (d := 46) (v := ?vR2) rfl rfl (by as_aux_lemma => kernel_rfl) (by as_aux_lemma => kernel_rfl) (by as_aux_lemma => kernel_rfl) (fun _ _ _ h => h) (by rfl) ?hR2 (by assumption) ?_
            case hR2 => intro wx hSw; go_simp; try with_reducible rfl
            try simp only [List.setIfInBounds_toArray, List.set_cons_zero, List.set_cons_succ]
            refine Ord.take (i := 3) (d := 47) (v := ?vR3) rfl rfl (by as_aux_lemma => kernel_rfl) (by as_aux_lemma => kernel_rfl) (by as_aux_lemma => kernel_rfl) (fun _ _ _ h => h) (by rfl) ?hR3 (by assumption) ?_
            case hR3 => intro wx hSw; go_simp; try with_reducible rfl
            try simp only [List.setIfInBounds_toArray, List.set_cons_zero, List.set_cons_succ]
            refine Ord.take (i := 4) (d := 48) (v := ?vR4) rfl rfl (by as_aux_lemma => kernel_rfl) (by as_aux_lemma => kernel_rfl) (by as_aux_lemma => kernel_rfl) (fun _ _ _ h => h) (by rfl) ?hR4 (by assumption) ?_
            case hR4 => intro wx hSw; go_simp; try with_reducible rfl
            try simp only [List.setIfInBounds_toArray, List.set_cons_zero, List.set_cons_succ]
            refine Ord.take (i := 5) (d := 49) (v := ?vR5) rfl rfl (by as_aux_lemma => kernel_rfl) (by as_aux_lemma => kernel_rfl) (by as_aux_lemma => kernel_rfl) (fun _ _ _ h => h) (by rfl) ?hR5 (by assumption) ?_
            case hR5 => intro wx hSw; go_simp; try with_reducible rfl
            try simp only [List.setIfInBounds_toArray, List.set_cons_zero, List.set_cons_succ]
            refine Ord.take (i := 6) (d := 50) (v := .slice (some ⟨b, o, none⟩) n cap) rfl rfl (by as_aux_lemma => kernel_rfl) (by as_aux_lemma => kernel_rfl) (by as_aux_lemma => kernel_rfl) (fun _ _ _ h => h) (by rfl) ?hR6 (by assumption) ?_
            case hR6 => intro wx hSw; have hc := HCD.out _ hSw; go_simp; try with_reducible rfl
            try simp only [List.setIfInBounds_toArray, List.set_cons_zero, List.set_cons_succ]
            refine Ord.take (i := 7) (d := 51) (v := ?vR7) rfl rfl (by as_aux_lemma => kernel_rfl) (by as_aux_lemma => kernel_rfl) (by as_aux_lemma => kernel_rfl) (fun _ _ _ h => h) (by rfl) ?hR7 (by assumption) ?_
            case hR7 => intro wx hSw; go_simp; try with_reducible rfl
            try simp only [List.setIfInBounds_toArray, List.set_cons_zero, List.set_cons_succ]
            refine Ord.take (i := 8) (d := 52) (v := .pointer (some ⟨b, o + k * 4, none⟩)) rfl rfl (by as_aux_lemma => kernel_rfl) (by as_aux_lemma => kernel_rfl) (by as_aux_lemma => kernel_rfl) (fun _ _ _ h => h) (by rfl) ?hR8 (by assumption) ?_
            case hR8 => intro wx hSw; go_simp; try with_reducible rfl
            try simp only [List.setIfInBounds_toArray, List.set_cons_zero, List.set_cons_succ]
            refine Ord.take (i := 9) (d := 53) (v := .pointer (some ⟨b, o + k * 4, none⟩)) rfl rfl (by as_aux_lemma => kernel_rfl) (by as_aux_lemma => kernel_rfl) (by as_aux_lemma => kernel_rfl) (fun _ _ _ h => h) (by rfl) ?hR9 (by assumption) ?_
            case hR9 => intro wx hSw; go_simp; try with_reducible rfl
            try simp only [List.setIfInBounds_toArray, List.set_cons_zero, List.set_cons_succ]
            refine Ord.take (i := 10) (d := 54) (v := .string x.path) rfl rfl (by as_aux_lemma => kernel_rfl) (by as_aux_lemma => kernel_rfl) (by as_aux_lemma => kernel_rfl) (fun _ _ _ h => h) (by rfl) ?hR10 (by assumption) ?_
            case hR10 => intro wx hSw; have hc := HCX.out _ hSw; go_simp; try with_reducible rfl
            try simp only [List.setIfInBounds_toArray, List.set_cons_zero, List.set_cons_succ]
            refine Ord.take (i := 11) (d := 55) (v := .pointer (some ⟨W.heap.size, 36, none⟩)) rfl rfl (by as_aux_lemma => kernel_rfl) (by as_aux_lemma => kernel_rfl) (by as_aux_lemma => kernel_rfl) (fun _ _ _ h => h) (by rfl) ?hR11 (by assumption) ?_
            case hR11 => intro wx hSw; go_simp; try with_reducible rfl
            try simp only [List.setIfInBounds_toArray, List.set_cons_zero, List.set_cons_succ]
            refine Ord.take (i := 12) (d := 56) (v := .string r.path) rfl rfl (by as_aux_lemma => kernel_rfl) (by as_aux_lemma => kernel_rfl) (by as_aux_lemma => kernel_rfl) (fun _ _ _ h => h) (by rfl) ?hR12 (by assumption) ?_
            case hR12 => intro wx hSw; have hc := HC36.out _ hSw; go_simp; try with_reducible rfl
            try simp only [List.setIfInBounds_toArray, List.set_cons_zero, List.set_cons_succ]
            refine Ord.take (i := 13) (d := 57) (v := .bool (!Op.bytesLess x.path.toList r.path.toList)) rfl rfl (by as_aux_lemma => kernel_rfl) (by as_aux_lemma => kernel_rfl) (by as_aux_lemma => kernel_rfl) (fun _ _ _ h => h) (by rfl) ?hR13 (by assumption) ?_
            case hR13 => intro wx hSw; go_simp; try with_reducible rfl
            try simp only [List.setIfInBounds_toArray, List.set_cons_zero, List.set_cons_succ]
            refine Ord.take (i := 14) (d := 58) (v := .bool (!Op.bytesLess x.path.toList r.path.toList)) rfl rfl (by as_aux_lemma => kernel_rfl) (by as_aux_lemma => kernel_rfl) (by as_aux_lemma => kernel_rfl) (fun _ _ _ h => h) (by rfl) ?hR14 (by assumption) ?_
            case hR14 => intro wx hSw; go_simp; try with_reducible rfl
            try simp only [List.setIfInBounds_toArray, List.set_cons_zero, List.set_cons_succ]
            refine wpAnyH_done (by as_aux_lemma => kernel_rfl) ?_ _
            have HOW := hid (own_later HO.out hB_v0)
            cases hbl : Op.bytesLess x.path.toList r.path.toList with
            | true =>
              have hge : geP x.path r.path = false := by unfold geP; rw [hbl]; rfl
              go_wp2_with fail
              refine wp_region_held_drew (S := fun X => Below V6.heap.size V6 X) (by kernel_rfl) (bel_drewS hS_v0) (fun hS_v0n => ?_)
              have hB_v0n : Below v0.heap.size v0 v0.drew := (Below.refl _ _).drew
              generalize v0.drew = v0n at *
              simp only [List.size_toArray, List.length_cons, List.length_nil, Nat.reduceAdd]
              refine Ord.take (i := 0) (d := 63) (v := ?vU0) rfl rfl (by as_aux_lemma => kernel_rfl) (by as_aux_lemma => kernel_rfl) (by as_aux_lemma => kernel_rfl) (fun _ _ _ h => h) (by rfl) ?hU0 (by assumption) ?_
              case hU0 => intro wx hSw; go_simp; try with_reducible rfl
              try simp only [List.setIfInBounds_toArray, List.set_cons_zero, List.set_cons_succ]
              refine Ord.take (i := 1) (d := 64) (v := ?vU1) rfl rfl (by as_aux_lemma => kernel_rfl) (by as_aux_lemma => kernel_rfl) (by as_aux_lemma => kernel_rfl) (fun _ _ _ h => h) (by rfl) ?hU1 (by assumption) ?_
              case hU1 => intro wx hSw; go_simp; try with_reducible rfl
              try simp only [List.setIfInBounds_toArray, List.set_cons_zero, List.set_cons_succ]
              refine Ord.take (i := 2) (d := 65) (v := ?vU2) rfl rfl (by as_aux_lemma => kernel_rfl) (by as_aux_lemma => kernel_rfl) (by as_aux_lemma => kernel_rfl) (fun _ _ _ h => h) (by rfl) ?hU2 (by assumption) ?_
              case hU2 => intro wx hSw; go_simp; try with_reducible rfl
              try simp only [List.setIfInBounds_toArray, List.set_cons_zero, List.set_cons_succ]
              refine Ord.take (i := 3) (d := 66) (v := .slice (some ⟨b, o, none⟩) n cap) rfl rfl (by as_aux_lemma => kernel_rfl) (by as_aux_lemma => kernel_rfl) (by as_aux_lemma => kernel_rfl) (fun _ _ _ h => h) (by rfl) ?hU3 (by assumption) ?_
              case hU3 => intro wx hSw; have hc := HCD.out _ hSw; go_simp; try with_reducible rfl
              try simp only [List.setIfInBounds_toArray, List.set_cons_zero, List.set_cons_succ]
              refine Ord.take (i := 4) (d := 67) (v := ?vU4) rfl rfl (by as_aux_lemma => kernel_rfl) (by as_aux_lemma => kernel_rfl) (by as_aux_lemma => kernel_rfl) (fun _ _ _ h => h) (by rfl) ?hU4 (by assumption) ?_
              case hU4 => intro wx hSw; go_simp; try with_reducible rfl
              try simp only [List.setIfInBounds_toArray, List.set_cons_zero, List.set_cons_succ]
              refine Ord.take (i := 5) (d := 68) (v := .pointer (some ⟨b, o + k * 4, none⟩)) rfl rfl (by as_aux_lemma => kernel_rfl) (by as_aux_lemma => kernel_rfl) (by as_aux_lemma => kernel_rfl) (fun _ _ _ h => h) (by rfl) ?hU5 (by assumption) ?_
              case hU5 => intro wx hSw; go_simp; try with_reducible rfl
              try simp only [List.setIfInBounds_toArray, List.set_cons_zero, List.set_cons_succ]
              refine Ord.take (i := 6) (d := 69) (v := .pointer (some ⟨b, o + k * 4, none⟩)) rfl rfl (by as_aux_lemma => kernel_rfl) (by as_aux_lemma => kernel_rfl) (by as_aux_lemma => kernel_rfl) (fun _ _ _ h => h) (by rfl) ?hU6 (by assumption) ?_
              case hU6 => intro wx hSw; go_simp; try with_reducible rfl
              try simp only [List.setIfInBounds_toArray, List.set_cons_zero, List.set_cons_succ]
              refine Ord.take (i := 7) (d := 70) (v := .string x.path) rfl rfl (by as_aux_lemma => kernel_rfl) (by as_aux_lemma => kernel_rfl) (by as_aux_lemma => kernel_rfl) (fun _ _ _ h => h) (by rfl) ?hU7 (by assumption) ?_
              case hU7 => intro wx hSw; have hc := HCX.out _ hSw; go_simp; try with_reducible rfl
              try simp only [List.setIfInBounds_toArray, List.set_cons_zero, List.set_cons_succ]
              refine Ord.take (i := 8) (d := 71) (v := .pointer (some ⟨W.heap.size, 36, none⟩)) rfl rfl (by as_aux_lemma => kernel_rfl) (by as_aux_lemma => kernel_rfl) (by as_aux_lemma => kernel_rfl) (fun _ _ _ h => h) (by rfl) ?hU8 (by assumption) ?_
              case hU8 => intro wx hSw; go_simp; try with_reducible rfl
              try simp only [List.setIfInBounds_toArray, List.set_cons_zero, List.set_cons_succ]
              refine Ord.take (i := 9) (d := 72) (v := .string r.path) rfl rfl (by as_aux_lemma => kernel_rfl) (by as_aux_lemma => kernel_rfl) (by as_aux_lemma => kernel_rfl) (fun _ _ _ h => h) (by rfl) ?hU9 (by assumption) ?_
              case hU9 => intro wx hSw; have hc := HC36.out _ hSw; go_simp; try with_reducible rfl
              try simp only [List.setIfInBounds_toArray, List.set_cons_zero, List.set_cons_succ]
              refine Ord.take (i := 10) (d := 73) (v := .bool (!(x.path.toList == r.path.toList))) rfl rfl (by as_aux_lemma => kernel_rfl) (by as_aux_lemma => kernel_rfl) (by as_aux_lemma => kernel_rfl) (fun _ _ _ h => h) (by rfl) ?hU10 (by assumption) ?_
              case hU10 => intro wx hSw; go_simp; try with_reducible rfl
              try simp only [List.setIfInBounds_toArray, List.set_cons_zero, List.set_cons_succ]
              refine wpAnyH_done (by as_aux_lemma => kernel_rfl) ?_ _
              obtain ⟨q, hq⟩ : ∃ q, q = (x.path.toList == r.path.toList) := ⟨_, rfl⟩
              rw [← hq]
              have HQ := hid hq
              clear hq
              cases q with
              | true =>
                have hxr : x.path = r.path := ba_inj (eq_of_beq HQ.out.symm)
                have HEQ : Hid ((acc) ++ dins r.path F false (L.drop (k + 1)) = R0) := by
                  have h := HA2.out
                  try rw [hge] at h
                  show _ = _
                  simpa [hge, hxr] using h
                have HME : Hid (∀ i ∈ acc, i = F ∨ i ∈ L) := fun i hi => by
                  exact HM.out i hi
                have HSE := hid hS_v0n
                go_wp2
                go_roundw
                case rel => exact ⟨k + 1, acc, false, by omega, (by show _ ≤ k + 1 + 0; first | omega | (simp; omega)), rfl, by go_num, (own_later HOW.out hB_v0n), HEQ.out, HME.out, HSE.out⟩
                case measure => simp [intOf]; omega
              | false =>
                have hxr : ¬ x.path = r.path := fun e => by
                  have h := HQ.out
                  rw [e, beq_self_eq_true] at h
                  cases h
                have cdv0n := HCD.out _ hS_v0n
                have HBA_v0n := hid (bel_alc v0n (.cells x.cs.toArray 51))
                have HOA_v0n := hid (own_later (own_later HOW.out hB_v0n) HBA_v0n.out)
                have HNW_v0n : Hid (∀ j u, x.cs[j]? = some u → (v0n.alloc (.cells x.cs.toArray 51)).cell? ((⟨v0n.heap.size, 0, none⟩ : Addr).add j) = some u) := fun j u hu => by
                  rw [add_plain, Nat.zero_add]
                  exact (Joins.cell_of_block (heap_alc v0n _) j).trans (by rw [List.getElem?_toArray]; exact hu)
                have HZ_v0n : Hid (V6.heap.size ≤ (v0n.alloc (.cells x.cs.toArray 51)).heap.size) := Nat.le_trans hS_v0n.size HBA_v0n.out.size
                have HS_v0n := hid hS_v0n
                have hal : (acc).length ≤ 2000 := by first | omega | (simp; omega)
                have HAL := hid hal
                clear hal
                go_wp2_with (first | refine wpList_load_P rfl 51 _ rfl b (o + k * 4) rfl x.cs _ (HXR.out _ hS_v0n) Try.underlying51 rfl Try.size51 ?_ | refine wpList_buildOne rfl 27 51 _ rfl (some 82) rfl x.cs.toArray i1 _ Try.underlying27 hi1 hy0 (hy1.trans rfl) (show 0 < 4 from by decide) (show 4 ≤ 1000 from by decide) rfl ?_ | (at_builtin; refine wpList_append_own _ rfl _ _ 27 rfl V6.heap.size 51 i1 _ 4 56 Try.underlying27 hi1 hy0 hy1 hy2 rfl (by decide) _ (acc).length _ rfl HOA_v0n.out ⟨v0n.heap.size, 0, none⟩ 1 1 x.cs rfl rfl HNW_v0n.out (fun u hu => List.all_eq_true.1 (by simpa using Fi.one x) u hu) (by have := HAL.out; unfold maxLen; omega) (by have := HAL.out; omega) HZ_v0n.out ?_) | fail)
                intro yv0m v0m ho hg _
                have HO_v0m : Hid (v0m.ownsRow V6.heap.size 51 4 yv0m (acc ++ [x]).length ((acc ++ [x]).flatMap Fi.cs)) := by
                  show World.ownsRow _ _ _ _ _ _ _
                  rw [List.length_append, List.flatMap_append]
                  simpa using ho
                have hS_v0m : Below V6.heap.size V6 v0m := (hS_v0n.trans (HBA_v0n.out.mono hS_v0n.size)).trans ((Below.refl _ _).grown hg HZ_v0n.out (fun j hj => (HOA_v0n.out.lt j hj).1))
                clear ho hg HOA_v0n HNW_v0n HAL
                have HEQ : Hid ((acc ++ [x]) ++ dins r.path F false (L.drop (k + 1)) = R0) := by
                  have h := HA2.out
                  try rw [hge] at h
                  show _ = _
                  simpa [hge, hxr] using h
                have HME : Hid (∀ i ∈ acc ++ [x], i = F ∨ i ∈ L) := fun i hi => by
                  simp only [List.mem_append, List.mem_singleton] at hi
                  rcases hi with hi | hi
                  · exact HM.out i hi
                  · rw [hi]; exact .inr HXM.out
                have HSE := hid hS_v0m
                go_wp2
                go_roundw
                case rel => exact ⟨k + 1, acc ++ [x], false, by omega, (by show _ ≤ k + 1 + 0; first | omega | (simp; omega)), rfl, by go_num, HO_v0m.out, HEQ.out, HME.out, HSE.out⟩
                case measure => simp [intOf]; omega
            | false =>
              have hge : geP x.path r.path = true := by unfold geP; rw [hbl]; rfl
              have HBA_v0 := hid (bel_alc v0 (.cells F.cs.toArray 51))
              have HOA_v0 := hid (own_later HOW.out HBA_v0.out)
              have HNW_v0 : Hid (∀ j u, F.cs[j]? = some u → (v0.alloc (.cells F.cs.toArray 51)).cell? ((⟨v0.heap.size, 0, none⟩ : Addr).add j) = some u) := fun j u hu => by
                rw [add_plain, Nat.zero_add]
                exact (Joins.cell_of_block (heap_alc v0 _) j).trans (by rw [List.getElem?_toArray]; exact hu)
              have HZ_v0 : Hid (V6.heap.size ≤ (v0.alloc (.cells F.cs.toArray 51)).heap.size) := Nat.le_trans hS_v0.size HBA_v0.out.size
              have HS_v0 := hid hS_v0
              have hal : (acc).length ≤ 2000 := by first | omega | (simp; omega)
              have HAL := hid hal
              clear hal
              go_wp2_with (first | refine wpList_load_P rfl 51 _ rfl b7 0 rfl F.cs _ (blk_range (HF7.out _ hS_v0)) Try.underlying51 rfl Try.size51 ?_ | refine wpList_buildOne rfl 27 51 _ rfl (some 61) rfl F.cs.toArray i1 _ Try.underlying27 hi1 hy0 (hy1.trans rfl) (show 0 < 4 from by decide) (show 4 ≤ 1000 from by decide) rfl ?_ | (at_builtin; refine wpList_append_own _ rfl _ _ 27 rfl V6.heap.size 51 i1 _ 4 56 Try.underlying27 hi1 hy0 hy1 hy2 rfl (by decide) _ (acc).length _ rfl HOA_v0.out ⟨v0.heap.size, 0, none⟩ 1 1 F.cs rfl rfl HNW_v0.out (fun u hu => List.all_eq_true.1 (by simpa using Fi.one F) u hu) (by have := HAL.out; unfold maxLen; omega) (by have := HAL.out; omega) HZ_v0.out ?_) | fail)
              intro yv1 v1 ho hg _
              have HO_v1 : Hid (v1.ownsRow V6.heap.size 51 4 yv1 (acc ++ [F]).length ((acc ++ [F]).flatMap Fi.cs)) := by
                show World.ownsRow _ _ _ _ _ _ _
                rw [List.length_append, List.flatMap_append]
                simpa using ho
              have hS_v1 : Below V6.heap.size V6 v1 := (hS_v0.trans (HBA_v0.out.mono hS_v0.size)).trans ((Below.refl _ _).grown hg HZ_v0.out (fun j hj => (HOA_v0.out.lt j hj).1))
              clear ho hg HOA_v0 HNW_v0 HAL
              go_wp2_with fail
              refine wp_region_held_drew (S := fun X => Below V6.heap.size V6 X) (by kernel_rfl) (bel_drewS hS_v1) (fun hS_v1n => ?_)
              have hB_v1n : Below v1.heap.size v1 v1.drew := (Below.refl _ _).drew
              generalize v1.drew = v1n at *
              simp only [List.size_toArray, List.length_cons, List.length_nil, Nat.reduceAdd]
              refine Ord.take (i := 0) (d := 63) (v := ?vX0) rfl rfl (by as_aux_lemma => kernel_rfl) (by as_aux_lemma => kernel_rfl) (by as_aux_lemma => kernel_rfl) (fun _ _ _ h => h) (by rfl) ?hX0 (by assumption) ?_
              case hX0 => intro wx hSw; go_simp; try with_reducible rfl
              try simp only [List.setIfInBounds_toArray, List.set_cons_zero, List.set_cons_succ]
              refine Ord.take (i := 1) (d := 64) (v := ?vX1) rfl rfl (by as_aux_lemma => kernel_rfl) (by as_aux_lemma => kernel_rfl) (by as_aux_lemma => kernel_rfl) (fun _ _ _ h => h) (by rfl) ?hX1 (by assumption) ?_
              case hX1 => intro wx hSw; go_simp; try with_reducible rfl
              try simp only [List.setIfInBounds_toArray, List.set_cons_zero, List.set_cons_succ]
              refine Ord.take (i := 2) (d := 65) (v := ?vX2) rfl rfl (by as_aux_lemma => kernel_rfl) (by as_aux_lemma => kernel_rfl) (by as_aux_lemma => kernel_rfl) (fun _ _ _ h => h) (by rfl) ?hX2 (by assumption) ?_
              case hX2 => intro wx hSw; go_simp; try with_reducible rfl
              try simp only [List.setIfInBounds_toArray, List.set_cons_zero, List.set_cons_succ]
              refine Ord.take (i := 3) (d := 66) (v := .slice (some ⟨b, o, none⟩) n cap) rfl rfl (by as_aux_lemma => kernel_rfl) (by as_aux_lemma => kernel_rfl) (by as_aux_lemma => kernel_rfl) (fun _ _ _ h => h) (by rfl) ?hX3 (by assumption) ?_
              case hX3 => intro wx hSw; have hc := HCD.out _ hSw; go_simp; try with_reducible rfl
              try simp only [List.setIfInBounds_toArray, List.set_cons_zero, List.set_cons_succ]
              refine Ord.take (i := 4) (d := 67) (v := ?vX4) rfl rfl (by as_aux_lemma => kernel_rfl) (by as_aux_lemma => kernel_rfl) (by as_aux_lemma => kernel_rfl) (fun _ _ _ h => h) (by rfl) ?hX4 (by assumption) ?_
              case hX4 => intro wx hSw; go_simp; try with_reducible rfl
              try simp only [List.setIfInBounds_toArray, List.set_cons_zero, List.set_cons_succ]
              refine Ord.take (i := 5) (d := 68) (v := .pointer (some ⟨b, o + k * 4, none⟩)) rfl rfl (by as_aux_lemma => kernel_rfl) (by as_aux_lemma => kernel_rfl) (by as_aux_lemma => kernel_rfl) (fun _ _ _ h => h) (by rfl) ?hX5 (by assumption) ?_
              case hX5 => intro wx hSw; go_simp; try with_reducible rfl
              try simp only [List.setIfInBounds_toArray, List.set_cons_zero, List.set_cons_succ]
              refine Ord.take (i := 6) (d := 69) (v := .pointer (some ⟨b, o + k * 4, none⟩)) rfl rfl (by as_aux_lemma => kernel_rfl) (by as_aux_lemma => kernel_rfl) (by as_aux_lemma => kernel_rfl) (fun _ _ _ h => h) (by rfl) ?hX6 (by assumption) ?_
              case hX6 => intro wx hSw; go_simp; try with_reducible rfl
              try simp only [List.setIfInBounds_toArray, List.set_cons_zero, List.set_cons_succ]
              refine Ord.take (i := 7) (d := 70) (v := .string x.path) rfl rfl (by as_aux_lemma => kernel_rfl) (by as_aux_lemma => kernel_rfl) (by as_aux_lemma => kernel_rfl) (fun _ _ _ h => h) (by rfl) ?hX7 (by assumption) ?_
              case hX7 => intro wx hSw; have hc := HCX.out _ hSw; go_simp; try with_reducible rfl
              try simp only [List.setIfInBounds_toArray, List.set_cons_zero, List.set_cons_succ]
              refine Ord.take (i := 8) (d := 71) (v := .pointer (some ⟨W.heap.size, 36, none⟩)) rfl rfl (by as_aux_lemma => kernel_rfl) (by as_aux_lemma => kernel_rfl) (by as_aux_lemma => kernel_rfl) (fun _ _ _ h => h) (by rfl) ?hX8 (by assumption) ?_
              case hX8 => intro wx hSw; go_simp; try with_reducible rfl
              try simp only [List.setIfInBounds_toArray, List.set_cons_zero, List.set_cons_succ]
              refine Ord.take (i := 9) (d := 72) (v := .string r.path) rfl rfl (by as_aux_lemma => kernel_rfl) (by as_aux_lemma => kernel_rfl) (by as_aux_lemma => kernel_rfl) (fun _ _ _ h => h) (by rfl) ?hX9 (by assumption) ?_
              case hX9 => intro wx hSw; have hc := HC36.out _ hSw; go_simp; try with_reducible rfl
              try simp only [List.setIfInBounds_toArray, List.set_cons_zero, List.set_cons_succ]
              refine Ord.take (i := 10) (d := 73) (v := .bool (!(x.path.toList == r.path.toList))) rfl rfl (by as_aux_lemma => kernel_rfl) (by as_aux_lemma => kernel_rfl) (by as_aux_lemma => kernel_rfl) (fun _ _ _ h => h) (by rfl) ?hX10 (by assumption) ?_
              case hX10 => intro wx hSw; go_simp; try with_reducible rfl
              try simp only [List.setIfInBounds_toArray, List.set_cons_zero, List.set_cons_succ]
              refine wpAnyH_done (by as_aux_lemma => kernel_rfl) ?_ _
              obtain ⟨q, hq⟩ : ∃ q, q = (x.path.toList == r.path.toList) := ⟨_, rfl⟩
              rw [← hq]
              have HQ := hid hq
              clear hq
              cases q with
              | true =>
                have hxr : x.path = r.path := ba_inj (eq_of_beq HQ.out.symm)
                have HEQ : Hid ((acc ++ [F]) ++ dins r.path F true (L.drop (k + 1)) = R0) := by
                  have h := HA2.out
                  try rw [hge] at h
                  show _ = _
                  simpa [hge, hxr] using h
                have HME : Hid (∀ i ∈ acc ++ [F], i = F ∨ i ∈ L) := fun i hi => by
                  simp only [List.mem_append, List.mem_singleton] at hi
                  rcases hi with hi | hi
                  · exact HM.out i hi
                  · exact .inl hi
                have HSE := hid hS_v1n
                go_wp2
                go_roundw
                case rel => exact ⟨k + 1, acc ++ [F], true, by omega, (by show _ ≤ k + 1 + 1; first | omega | (simp; omega)), rfl, by go_num, (own_later HO_v1.out hB_v1n), HEQ.out, HME.out, HSE.out⟩
                case measure => simp [intOf]; omega
              | false =>
                have hxr : ¬ x.path = r.path := fun e => by
                  have h := HQ.out
                  rw [e, beq_self_eq_true] at h
                  cases h
                have cdv1n := HCD.out _ hS_v1n
                have HBA_v1n := hid (bel_alc v1n (.cells x.cs.toArray 51))
                have HOA_v1n := hid (own_later (own_later HO_v1.out hB_v1n) HBA_v1n.out)
                have HNW_v1n : Hid (∀ j u, x.cs[j]? = some u → (v1n.alloc (.cells x.cs.toArray 51)).cell? ((⟨v1n.heap.size, 0, none⟩ : Addr).add j) = some u) := fun j u hu => by
                  rw [add_plain, Nat.zero_add]
                  exact (Joins.cell_of_block (heap_alc v1n _) j).trans (by rw [List.getElem?_toArray]; exact hu)
                have HZ_v1n : Hid (V6.heap.size ≤ (v1n.alloc (.cells x.cs.toArray 51)).heap.size) := Nat.le_trans hS_v1n.size HBA_v1n.out.size
                have HS_v1n := hid hS_v1n
                have hal : (acc ++ [F]).length ≤ 2000 := by first | omega | (simp; omega)
                have HAL := hid hal
                clear hal
                go_wp2_with (first | refine wpList_load_P rfl 51 _ rfl b (o + k * 4) rfl x.cs _ (HXR.out _ hS_v1n) Try.underlying51 rfl Try.size51 ?_ | refine wpList_buildOne rfl 27 51 _ rfl (some 82) rfl x.cs.toArray i1 _ Try.underlying27 hi1 hy0 (hy1.trans rfl) (show 0 < 4 from by decide) (show 4 ≤ 1000 from by decide) rfl ?_ | (at_builtin; refine wpList_append_own _ rfl _ _ 27 rfl V6.heap.size 51 i1 _ 4 56 Try.underlying27 hi1 hy0 hy1 hy2 rfl (by decide) _ (acc ++ [F]).length _ rfl HOA_v1n.out ⟨v1n.heap.size, 0, none⟩ 1 1 x.cs rfl rfl HNW_v1n.out (fun u hu => List.all_eq_true.1 (by simpa using Fi.one x) u hu) (by have := HAL.out; unfold maxLen; omega) (by have := HAL.out; omega) HZ_v1n.out ?_) | fail)
                intro yv1m v1m ho hg _
                have HO_v1m : Hid (v1m.ownsRow V6.heap.size 51 4 yv1m (acc ++ [F] ++ [x]).length ((acc ++ [F] ++ [x]).flatMap Fi.cs)) := by
                  show World.ownsRow _ _ _ _ _ _ _
                  rw [List.length_append, List.flatMap_append]
                  simpa using ho
                have hS_v1m : Below V6.heap.size V6 v1m := (hS_v1n.trans (HBA_v1n.out.mono hS_v1n.size)).trans ((Below.refl _ _).grown hg HZ_v1n.out (fun j hj => (HOA_v1n.out.lt j hj).1))
                clear ho hg HOA_v1n HNW_v1n HAL
                have HEQ : Hid ((acc ++ [F] ++ [x]) ++ dins r.path F true (L.drop (k + 1)) = R0) := by
                  have h := HA2.out
                  try rw [hge] at h
                  show _ = _
                  simpa [hge, hxr] using h
                have HME : Hid (∀ i ∈ acc ++ [F] ++ [x], i = F ∨ i ∈ L) := fun i hi => by
                  simp only [List.mem_append, List.mem_singleton] at hi
                  rcases hi with (hi | hi) | hi
                  · exact HM.out i hi
                  · exact .inl hi
                  · rw [hi]; exact .inr HXM.out
                have HSE := hid hS_v1m
                go_wp2
                go_roundw
                case rel => exact ⟨k + 1, acc ++ [F] ++ [x], true, by omega, (by show _ ≤ k + 1 + 1; first | omega | (simp; omega)), rfl, by go_num, HO_v1m.out, HEQ.out, HME.out, HSE.out⟩
                case measure => simp [intOf]; omega
        · have hke : k = n := by omega
          subst hke
          have hkz : ¬ (k : Int) < (k : Int) := by omega
          have HA2 : Hid (acc ++ (if p = true then [] else [F]) = R0) := by
            have h := HA.out
            rw [List.drop_eq_nil_of_le (by rw [HN.out]; exact Nat.le_refl _)] at h
            exact h
          have cd := HCD.out _ HB.out
          have hS_wr := HB.out
          clear HA
          cases p with
          | true =>
            obtain ⟨Z, hZ⟩ : ∃ Z, Z = acc := ⟨_, rfl⟩
            have HOZ := HO.out
            rw [← hZ] at HOZ
            have hlst : Z = R0 := by rw [hZ]; simpa using HA2.out
            obtain ⟨a6, cap6, hv6, hrw, hfar⟩ := Rw.own (z := fiZ) HOZ (fun _ _ => rfl)
            subst hv6
            have hblk := blk_later HDB.out hS_wr
            have cdd := HCD.out _ hS_wr
            have udd := Joins.unfrozen_of_block hblk 0
            have hws : W.heap.size ≤ V6.heap.size := Nat.le_trans HB1.out.size HB6.out.size
            have HBW : Hid (Below W.heap.size W wr) := (HB1.out.trans (HB6.out.mono HB1.out.size)).trans (hS_wr.mono hws)
            have HBK := hid hblk
            have HRW := hid hrw
            have HFAR := hid hfar
            have HLS := hid hlst
            have HWS := hid hws
            have HPS : Hid (∀ i ∈ Z, Rp wr i.a i.cap i.ps) := fun i hi => by
              have hm : i = F ∨ i ∈ L := by
                rw [hZ] at hi
                exact HM.out i hi
              rcases hm with h | h
              · rw [h]; exact HFR.out.later hS_wr
              · exact (HD6.out.fs.ps i h).later hS_wr
            clear hZ HOZ hblk hrw hfar hlst hws
            go_wp2
            go_ret
            have hsg := setCell_grown wr d 0 (.slice a6 Z.length cap6)
            refine ⟨rfl, a6, cap6, Z, ⟨?_, ⟨HRW.out.grown hsg (fun b off e => ?_), fun i hi => rp_grown (HPS.out i hi) hsg (fun h0 b off e e2 => ?_)⟩⟩, ?_, (grown_bel (r := some d) HBW.out).trans hsg⟩
            · rw [Joins.block_setCell HBK.out]; rfl
            · have h1 := HFAR.out b off e
              have h2 := HWS.out
              have h3 := HDW.out
              omega
            · injection e2 with e2
              exact (HPS.out i hi).ne (C := [Value.slice a k cap]) HBK.out (fun u hu z => by rw [List.mem_singleton.1 hu]; intro e; cases e) h0 b off e e2.symm
            · unfold DApp
              rw [if_pos HE.out.symm]
              exact ⟨F, HFE.out.1, HFE.out.2.1, HFE.out.2.2.1, HFE.out.2.2.2, HLS.out.trans HR0.out⟩
          | false =>
            have hac : acc.length ≤ k := hac
            have HBA_wr := hid (bel_alc wr (.cells F.cs.toArray 51))
            have HOA_wr := hid (own_later HO.out HBA_wr.out)
            have HNW_wr : Hid (∀ j u, F.cs[j]? = some u → (wr.alloc (.cells F.cs.toArray 51)).cell? ((⟨wr.heap.size, 0, none⟩ : Addr).add j) = some u) := fun j u hu => by
              rw [add_plain, Nat.zero_add]
              exact (Joins.cell_of_block (heap_alc wr _) j).trans (by rw [List.getElem?_toArray]; exact hu)
            have HZ_wr : Hid (V6.heap.size ≤ (wr.alloc (.cells F.cs.toArray 51)).heap.size) := Nat.le_trans hS_wr.size HBA_wr.out.size
            have HS_wr := hid hS_wr
            have hal : (acc).length ≤ 2000 := by first | omega | (simp; omega)
            have HAL := hid hal
            clear hal
            go_wp2_with (first | refine wpList_load_P rfl 51 _ rfl b7 0 rfl F.cs _ (blk_range (HF7.out _ hS_wr)) Try.underlying51 rfl Try.size51 ?_ | refine wpList_buildOne rfl 27 51 _ rfl (some 88) rfl F.cs.toArray i1 _ Try.underlying27 hi1 hy0 (hy1.trans rfl) (show 0 < 4 from by decide) (show 4 ≤ 1000 from by decide) rfl ?_ | (at_builtin; refine wpList_append_own _ rfl _ _ 27 rfl V6.heap.size 51 i1 _ 4 56 Try.underlying27 hi1 hy0 hy1 hy2 rfl (by decide) _ (acc).length _ rfl HOA_wr.out ⟨wr.heap.size, 0, none⟩ 1 1 F.cs rfl rfl HNW_wr.out (fun u hu => List.all_eq_true.1 (by simpa using Fi.one F) u hu) (by have := HAL.out; unfold maxLen; omega) (by have := HAL.out; omega) HZ_wr.out ?_) | fail)
            intro yv1 v1 ho hg _
            have HO_v1 : Hid (v1.ownsRow V6.heap.size 51 4 yv1 (acc ++ [F]).length ((acc ++ [F]).flatMap Fi.cs)) := by
              show World.ownsRow _ _ _ _ _ _ _
              rw [List.length_append, List.flatMap_append]
              simpa using ho
            have hS_v1 : Below V6.heap.size V6 v1 := (hS_wr.trans (HBA_wr.out.mono hS_wr.size)).trans ((Below.refl _ _).grown hg HZ_wr.out (fun j hj => (HOA_wr.out.lt j hj).1))
            clear ho hg HOA_wr HNW_wr HAL
            obtain ⟨Z, hZ⟩ : ∃ Z, Z = acc ++ [F] := ⟨_, rfl⟩
            have HOZ := HO_v1.out
            rw [← hZ] at HOZ
            have hlst : Z = R0 := by rw [hZ]; simpa using HA2.out
            obtain ⟨a6, cap6, hv6, hrw, hfar⟩ := Rw.own (z := fiZ) HOZ (fun _ _ => rfl)
            subst hv6
            have hblk := blk_later HDB.out hS_v1
            have cdd := HCD.out _ hS_v1
            have udd := Joins.unfrozen_of_block hblk 0
            have hws : W.heap.size ≤ V6.heap.size := Nat.le_trans HB1.out.size HB6.out.size
            have HBW : Hid (Below W.heap.size W v1) := (HB1.out.trans (HB6.out.mono HB1.out.size)).trans (hS_v1.mono hws)
            have HBK := hid hblk
            have HRW := hid hrw
            have HFAR := hid hfar
            have HLS := hid hlst
            have HWS := hid hws
            have HPS : Hid (∀ i ∈ Z, Rp v1 i.a i.cap i.ps) := fun i hi => by
              have hm : i = F ∨ i ∈ L := by
                rw [hZ] at hi
                rcases List.mem_append.1 hi with h | h
                · exact HM.out i h
                · exact .inl (List.mem_singleton.1 h)
              rcases hm with h | h
              · rw [h]; exact HFR.out.later hS_v1
              · exact (HD6.out.fs.ps i h).later hS_v1
            clear hZ HOZ hblk hrw hfar hlst hws
            go_wp2
            go_ret
            have hsg := setCell_grown v1 d 0 (.slice a6 Z.length cap6)
            refine ⟨rfl, a6, cap6, Z, ⟨?_, ⟨HRW.out.grown hsg (fun b off e => ?_), fun i hi => rp_grown (HPS.out i hi) hsg (fun h0 b off e e2 => ?_)⟩⟩, ?_, (grown_bel (r := some d) HBW.out).trans hsg⟩
            · rw [Joins.block_setCell HBK.out]; rfl
            · have h1 := HFAR.out b off e
              have h2 := HWS.out
              have h3 := HDW.out
              omega
            · injection e2 with e2
              exact (HPS.out i hi).ne (C := [Value.slice a k cap]) HBK.out (fun u hu z => by rw [List.mem_singleton.1 hu]; intro e; cases e) h0 b off e e2.symm
            · unfold DApp
              rw [if_pos HE.out.symm]
              exact ⟨F, HFE.out.1, HFE.out.2.1, HFE.out.2.2.1, HFE.out.2.2.2, HLS.out.trans HR0.out⟩
    · refine wp_region_held_drew (S := fun X => Below W1.heap.size W1 X) (by kernel_rfl) (Below.refl _ _).drew (fun hS_v0 => ?_)
      generalize W1.drew = v0 at *
      simp only [List.size_toArray, List.length_cons, List.length_nil, Nat.reduceAdd]
      refine Ord.take (i := 0) (d := 16) (v := .pointer (some ⟨W.heap.size, 36, none⟩)) rfl rfl (by as_aux_lemma => kernel_rfl) (by as_aux_lemma => kernel_rfl) (by as_aux_lemma => kernel_rfl) (fun _ _ _ h => (aftF_no h).elim) (by rfl) ?hA0 (by assumption) ?_
      case hA0 => intro wx hSw; go_simp; try with_reducible rfl
      try simp only [List.setIfInBounds_toArray, List.set_cons_zero, List.set_cons_succ]
      refine Ord.take (i := 1) (d := 17) (v := .string r.path) rfl rfl (by as_aux_lemma => kernel_rfl) (by as_aux_lemma => kernel_rfl) (by as_aux_lemma => kernel_rfl) (fun _ _ _ h => (aftF_no h).elim) (by rfl) ?hA1 (by assumption) ?_
      case hA1 => intro wx hSw; have hc := (HBX.out _ hSw).c36; go_simp; try with_reducible rfl
      try simp only [List.setIfInBounds_toArray, List.set_cons_zero, List.set_cons_succ]
      refine Ord.take (i := 2) (d := 18) (v := .pointer (some ⟨W.heap.size, 0, none⟩)) rfl rfl (by as_aux_lemma => kernel_rfl) (by as_aux_lemma => kernel_rfl) (by as_aux_lemma => kernel_rfl) (fun _ _ _ h => (aftF_no h).elim) (by rfl) ?hA2 (by assumption) ?_
      case hA2 => intro wx hSw; go_simp; try with_reducible rfl
      try simp only [List.setIfInBounds_toArray, List.set_cons_zero, List.set_cons_succ]
      refine Ord.take (i := 3) (d := 19) (v := .int .i64 r.seq) rfl rfl (by as_aux_lemma => kernel_rfl) (by as_aux_lemma => kernel_rfl) (by as_aux_lemma => kernel_rfl) (fun _ _ _ h => (aftF_no h).elim) (by rfl) ?hA3 (by assumption) ?_
      case hA3 => intro wx hSw; have hc := (HBX.out _ hSw).c0; go_simp; try with_reducible rfl
      try simp only [List.setIfInBounds_toArray, List.set_cons_zero, List.set_cons_succ]
      refine Ord.take (i := 5) (d := 21) (v := .pointer (some ⟨W.heap.size, 37, none⟩)) rfl rfl (by as_aux_lemma => kernel_rfl) (by as_aux_lemma => kernel_rfl) (by as_aux_lemma => kernel_rfl) (fun _ _ _ h => (aftF_no h).elim) (by rfl) ?hA5 (by assumption) ?_
      case hA5 => intro wx hSw; go_simp; try with_reducible rfl
      try simp only [List.setIfInBounds_toArray, List.set_cons_zero, List.set_cons_succ]
      refine Ord.take (i := 6) (d := 22) (v := .slice r.a r.ps.length r.cap) rfl rfl (by as_aux_lemma => kernel_rfl) (by as_aux_lemma => kernel_rfl) (by as_aux_lemma => kernel_rfl) (fun _ _ _ h => (aftF_no h).elim) (by rfl) ?hA6 (by assumption) ?_
      case hA6 => intro wx hSw; have hc := (HBX.out _ hSw).c37; go_simp; try with_reducible rfl
      try simp only [List.setIfInBounds_toArray, List.set_cons_zero, List.set_cons_succ]
      refine wpAnyH_ready (rs := [4, 9]) (by as_aux_lemma => kernel_rfl) (by simp) (AllReadyH.cons rfl (fun K hK => ?_) (AllReadyH.cons rfl (fun K hK => ?_) (AllReadyH.nil)))
      · rw [if_pos (by rfl)]
        refine wp_buildEmptyP rfl W1.heap.size v0.heap.size hS_v0.size rfl (fun va HOE_va HBE_va => ?_)
        have hS_va : Below W1.heap.size W1 va := Bn hS_v0 HBE_va.out
        refine hK.out _ _ hS_va (fun _ => ?_)
        clear hK K
        try simp only [List.setIfInBounds_toArray, List.set_cons_zero, List.set_cons_succ]
        refine wpAnyH_ready (rs := [7, 9]) (by as_aux_lemma => kernel_rfl) (by simp) (AllReadyH.cons rfl (fun K hK => ?_) (AllReadyH.cons rfl (fun K hK => ?_) (AllReadyH.nil)))
        · rw [if_pos (by rfl)]
          refine wp_append_pp _ _ rfl W1.heap.size _ rfl HOE_va.out r.a r.cap r.ps rfl (HRP.out.later hS_va) (Nat.le_trans HFW.out (by decide)) hS_va.size (fun a5 cap5 vb HP_vb HF_vb HB_vb => ?_)
          have hS_vb : Below W1.heap.size W1 vb := hS_va.trans ((Below.refl _ _).grown HB_vb.out hS_va.size (fun j hj => (HOE_va.out.lt j hj).1))
          refine hK.out _ _ hS_vb (fun _ => ?_)
          clear hK K
          try simp only [List.setIfInBounds_toArray, List.set_cons_zero, List.set_cons_succ]
          refine Ord.take (i := 8) (d := 24) (v := .agg (Fi.cs (⟨r.path, 0, r.seq, r.ps, a5, cap5⟩ : Fi)).toArray) rfl rfl (by as_aux_lemma => kernel_rfl) (by as_aux_lemma => kernel_rfl) (by as_aux_lemma => kernel_rfl) (fun _ _ _ h => (aftF_no h).elim) (by rfl) ?hB8 (by assumption) ?_
          case hB8 => intro wx hSw; exact exec_build 51 _ rfl (by simp only [List.map_toArray, List.map_cons, List.map_nil]; exact built51F r.path r.seq a5 r.ps.length cap5 r.ps rfl)
          try simp only [List.setIfInBounds_toArray, List.set_cons_zero, List.set_cons_succ]
          refine wpAnyH_ready (rs := [9]) (by as_aux_lemma => kernel_rfl) (by simp) (AllReadyH.cons rfl (fun K hK => ?_) (AllReadyH.nil))
          rw [if_pos (by rfl)]
          refine wp_alloc_W 51 rfl fiZ.cs.toArray HY.out (some 7) rfl vb.heap.size rfl (fun vc HG_vc HA_vc HZ_vc => ?_)
          have hS_vc : Below W1.heap.size W1 vc := Bn hS_vb HA_vc.out
          refine hK.out _ _ hS_vc (fun _ => ?_)
          clear hK K
          try simp only [List.setIfInBounds_toArray, List.set_cons_zero, List.set_cons_succ]
          refine wpAnyH_ready (rs := [10]) (by as_aux_lemma => kernel_rfl) (by simp) (AllReadyH.cons rfl (fun K hK => ?_) (AllReadyH.nil))
          rw [if_pos (by rfl)]
          refine wp_store_W 51 _ _ rfl vb.heap.size (Fi.cs (⟨r.path, 0, r.seq, r.ps, a5, cap5⟩ : Fi)).toArray rfl rfl 51 fiZ.cs.toArray HG_vc.out Try.size51 rfl (Fi.one _) (fun vd HG_vd HB_vd HS_vd => ?_)
          have hge : W1.heap.size ≤ vb.heap.size := hS_vb.size
          have hS_vd : Below W1.heap.size W1 vd := hS_vc.trans (bel_grown HB_vd.out hge hS_vc.size)
          have HP_vd := hid ((HP_vb.out.later HA_vc.out).grown HB_vd.out (fun h0 b o e => (HP_vb.out.later HA_vc.out).ne HG_vc.out (Fi.no8 fiZ) h0 b o e))
          refine hK.out _ _ hS_vd (fun _ => ?_)
          clear hK K
          try simp only [List.setIfInBounds_toArray, List.set_cons_zero, List.set_cons_succ]
          refine wpAnyH_done (by as_aux_lemma => kernel_rfl) ?_ _
          exact aftF_mk vb.heap.size a5 cap5 _ HG_vd.out HP_vd.out hS_vd hge (by kernel_rfl)
        · rw [if_pos (by rfl)]
          refine wp_alloc_W 51 rfl fiZ.cs.toArray HY.out (some 7) rfl va.heap.size rfl (fun vb HG_vb HA_vb HZ_vb => ?_)
          have hS_vb : Below W1.heap.size W1 vb := Bn hS_va HA_vb.out
          refine hK.out _ _ hS_vb (fun _ => ?_)
          clear hK K
          try simp only [List.setIfInBounds_toArray, List.set_cons_zero, List.set_cons_succ]
          refine wpAnyH_ready (rs := [7]) (by as_aux_lemma => kernel_rfl) (by simp) (AllReadyH.cons rfl (fun K hK => ?_) (AllReadyH.nil))
          rw [if_pos (by rfl)]
          refine wp_append_pp _ _ rfl W1.heap.size _ rfl (own_later HOE_va.out HA_vb.out) r.a r.cap r.ps rfl (HRP.out.later hS_vb) (Nat.le_trans HFW.out (by decide)) hS_vb.size (fun a5 cap5 vc HP_vc HF_vc HB_vc => ?_)
          have hS_vc : Below W1.heap.size W1 vc := hS_vb.trans ((Below.refl _ _).grown HB_vc.out hS_vb.size (fun j hj => ((own_later HOE_va.out HA_vb.out).lt j hj).1))
          refine hK.out _ _ hS_vc (fun _ => ?_)
          clear hK K
          try simp only [List.setIfInBounds_toArray, List.set_cons_zero, List.set_cons_succ]
          refine Ord.take (i := 8) (d := 24) (v := .agg (Fi.cs (⟨r.path, 0, r.seq, r.ps, a5, cap5⟩ : Fi)).toArray) rfl rfl (by as_aux_lemma => kernel_rfl) (by as_aux_lemma => kernel_rfl) (by as_aux_lemma => kernel_rfl) (fun _ _ _ h => (aftF_no h).elim) (by rfl) ?hC8 (by assumption) ?_
          case hC8 => intro wx hSw; exact exec_build 51 _ rfl (by simp only [List.map_toArray, List.map_cons, List.map_nil]; exact built51F r.path r.seq a5 r.ps.length cap5 r.ps rfl)
          try simp only [List.setIfInBounds_toArray, List.set_cons_zero, List.set_cons_succ]
          have hne : v0.heap.size < va.heap.size := (HOE_va.out.lt _ rfl).2
          have HGc : Hid (vc.heap[va.heap.size]? = some (.cells fiZ.cs.toArray 51)) := (HB_vc.out.block _ (Array.getElem?_eq_some_iff.1 HG_vb.out).1 (fun e => by injection e with e; exact Nat.ne_of_gt hne e)).trans HG_vb.out
          refine wpAnyH_ready (rs := [10]) (by as_aux_lemma => kernel_rfl) (by simp) (AllReadyH.cons rfl (fun K hK => ?_) (AllReadyH.nil))
          rw [if_pos (by rfl)]
          refine wp_store_W 51 _ _ rfl va.heap.size (Fi.cs (⟨r.path, 0, r.seq, r.ps, a5, cap5⟩ : Fi)).toArray rfl rfl 51 fiZ.cs.toArray HGc.out Try.size51 rfl (Fi.one _) (fun vd HG_vd HB_vd HS_vd => ?_)
          have hge : W1.heap.size ≤ va.heap.size := hS_va.size
          have hS_vd : Below W1.heap.size W1 vd := hS_vc.trans (bel_grown HB_vd.out hge hS_vc.size)
          have HP_vd := hid ((HP_vc.out).grown HB_vd.out (fun h0 b o e => (HP_vc.out).ne HGc.out (Fi.no8 fiZ) h0 b o e))
          refine hK.out _ _ hS_vd (fun _ => ?_)
          clear hK K
          try simp only [List.setIfInBounds_toArray, List.set_cons_zero, List.set_cons_succ]
          refine wpAnyH_done (by as_aux_lemma => kernel_rfl) ?_ _
          exact aftF_mk va.heap.size a5 cap5 _ HG_vd.out HP_vd.out hS_vd hge (by kernel_rfl)
      · rw [if_pos (by rfl)]
        refine wp_alloc_W 51 rfl fiZ.cs.toArray HY.out (some 7) rfl v0.heap.size rfl (fun va HG_va HA_va HZ_va => ?_)
        have hS_va : Below W1.heap.size W1 va := Bn hS_v0 HA_va.out
        refine hK.out _ _ hS_va (fun _ => ?_)
        clear hK K
        try simp only [List.setIfInBounds_toArray, List.set_cons_zero, List.set_cons_succ]
        refine wpAnyH_ready (rs := [4]) (by as_aux_lemma => kernel_rfl) (by simp) (AllReadyH.cons rfl (fun K hK => ?_) (AllReadyH.nil))
        rw [if_pos (by rfl)]
        refine wp_buildEmptyP rfl W1.heap.size va.heap.size hS_va.size rfl (fun vb HOE_vb HBE_vb => ?_)
        have hS_vb : Below W1.heap.size W1 vb := Bn hS_va HBE_vb.out
        refine hK.out _ _ hS_vb (fun _ => ?_)
        clear hK K
        try simp only [List.setIfInBounds_toArray, List.set_cons_zero, List.set_cons_succ]
        refine wpAnyH_ready (rs := [7]) (by as_aux_lemma => kernel_rfl) (by simp) (AllReadyH.cons rfl (fun K hK => ?_) (AllReadyH.nil))
        rw [if_pos (by rfl)]
        refine wp_append_pp _ _ rfl W1.heap.size _ rfl HOE_vb.out r.a r.cap r.ps rfl (HRP.out.later hS_vb) (Nat.le_trans HFW.out (by decide)) hS_vb.size (fun a5 cap5 vc HP_vc HF_vc HB_vc => ?_)
        have hS_vc : Below W1.heap.size W1 vc := hS_vb.trans ((Below.refl _ _).grown HB_vc.out hS_vb.size (fun j hj => (HOE_vb.out.lt j hj).1))
        refine hK.out _ _ hS_vc (fun _ => ?_)
        clear hK K
        try simp only [List.setIfInBounds_toArray, List.set_cons_zero, List.set_cons_succ]
        refine Ord.take (i := 8) (d := 24) (v := .agg (Fi.cs (⟨r.path, 0, r.seq, r.ps, a5, cap5⟩ : Fi)).toArray) rfl rfl (by as_aux_lemma => kernel_rfl) (by as_aux_lemma => kernel_rfl) (by as_aux_lemma => kernel_rfl) (fun _ _ _ h => (aftF_no h).elim) (by rfl) ?hD8 (by assumption) ?_
        case hD8 => intro wx hSw; exact exec_build 51 _ rfl (by simp only [List.map_toArray, List.map_cons, List.map_nil]; exact built51F r.path r.seq a5 r.ps.length cap5 r.ps rfl)
        try simp only [List.setIfInBounds_toArray, List.set_cons_zero, List.set_cons_succ]
        have hne : v0.heap.size < va.heap.size := (Array.getElem?_eq_some_iff.1 HG_va.out).1
        have HGb : Hid (vb.heap[v0.heap.size]? = some (.cells fiZ.cs.toArray 51)) := (HBE_vb.out.block _ hne).trans HG_va.out
        have HGc : Hid (vc.heap[v0.heap.size]? = some (.cells fiZ.cs.toArray 51)) := (HB_vc.out.block _ (Array.getElem?_eq_some_iff.1 HGb.out).1 (fun e => by injection e with e; exact Nat.ne_of_lt hne e)).trans HGb.out
        refine wpAnyH_ready (rs := [10]) (by as_aux_lemma => kernel_rfl) (by simp) (AllReadyH.cons rfl (fun K hK => ?_) (AllReadyH.nil))
        rw [if_pos (by rfl)]
        refine wp_store_W 51 _ _ rfl v0.heap.size (Fi.cs (⟨r.path, 0, r.seq, r.ps, a5, cap5⟩ : Fi)).toArray rfl rfl 51 fiZ.cs.toArray HGc.out Try.size51 rfl (Fi.one _) (fun vd HG_vd HB_vd HS_vd => ?_)
        have hge : W1.heap.size ≤ v0.heap.size := hS_v0.size
        have hS_vd : Below W1.heap.size W1 vd := hS_vc.trans (bel_grown HB_vd.out hge hS_vc.size)
        have HP_vd := hid ((HP_vc.out).grown HB_vd.out (fun h0 b o e => (HP_vc.out).ne HGc.out (Fi.no8 fiZ) h0 b o e))
        refine hK.out _ _ hS_vd (fun _ => ?_)
        clear hK K
        try simp only [List.setIfInBounds_toArray, List.set_cons_zero, List.set_cons_succ]
        refine wpAnyH_done (by as_aux_lemma => kernel_rfl) ?_ _
        exact aftF_mk v0.heap.size a5 cap5 _ HG_vd.out HP_vd.out hS_vd hge (by kernel_rfl)
  · go_wp2
    go_ret
    exact ⟨rfl, a, cap, L, HD1.out, by unfold DApp; rw [if_neg (by rw [← HE.out]; assumption)], grown_bel HB1.out⟩
end Go.Proofs.Ytcbjlnabbfkkeaa
