/-
  Unpack: its closure, and the whole.
-/
import Derived.Test.YtelnefngkdfcoaaGreatPart30
import Derived.Test.YtelnefngkdfcoaaGreatPart27
namespace Go.Proofs.YtelnefngkdfcoaaGreat
open Go.RowKit Hf

def unpO (zs : List Int) : Option (List Tkz) :=
  match toksR zs with
  | none => none
  | some (l, _) => if (sizeO l).2 = 0 ∧ packB l = zs then some l else none
def UclPost (zs : List Int) (w : World) (e : Ending) (w' : World) : Prop :=
  Below w.heap.size w w' ∧ match unpO zs with
  | none => e = .panicked faultC
  | some l => ∃ a c, e = .returned (.slice a l.length c) ∧ Rt w' a c l
set_option maxHeartbeats 3200000 in
set_option maxRecDepth 100000 in
theorem ucl_word (gb : Nat) (a : Option Addr) (cap : Nat) (zs : List Int) (w : World) (hbx : w.cell? ⟨gb, 0, none⟩ = some (.slice a zs.length cap)) (hr : Ri w .u8 a cap zs) (hn : zs.length ≤ 4200) :
    Calls Tryz.prog 39 #[.pointer (some ⟨gb, 0, none⟩)] w (UclPost zs w) := by
  have HBX := hid (cell_lt hbx)
  have e0 := heap_new w (.cells #[.slice none 0 0, .int .u8 0, .int .i64 0] 82)
  have hb0 := bel_alloc w (.cells #[.slice none 0 0, .int .u8 0, .int .i64 0] 82)
  have HR := hid hr
  have HB0 := hid hb0
  have q63 : (Tryz.prog.info? 82).map (·.size) = some (#[Value.slice a zs.length cap, Value.int .u8 0, Value.int .i64 0] : Array Value).size := by kernel_rfl
  have o63 : (#[Value.slice a zs.length cap, Value.int .u8 0, Value.int .i64 0] : Array Value).all (·.oneCell') = true := by simp [Value.oneCell']
  clear hr hb0
  obtain ⟨len, hl⟩ : ∃ n, n = zs.length := ⟨_, rfl⟩
  have HL := hid hl
  rw [← hl] at hbx hn q63 o63
  clear hl
  unfold UclPost
  obtain ⟨R, hRR⟩ : ∃ R, R = unpO zs := ⟨_, rfl⟩
  rw [← hRR]
  have HU : Hid (R = match toksR zs with | none => none | some (l, _) => if (sizeO l).2 = 0 ∧ packB l = zs then some l else none) := hRR
  clear hRR
  go_enter Tryz.func39, Tryz.ntmps39
  go_wp2_with (refine wpList_store_rowTo rfl 82 _ _ rfl rfl w.heap.size #[.slice a len cap, .int .u8 0, .int .i64 0] rfl rfl 82 _ e0 q63 rfl o63 ?_)
  have hRr : Rr w ((w.alloc (.cells #[.slice none 0 0, .int .u8 0, .int .i64 0] 82)).setRow w.heap.size #[.slice a len cap, .int .u8 0, .int .i64 0]) w.heap.size 82 [.int .u8 0, .int .i64 0] a cap zs :=
    ⟨by rw [← HL.out]; exact setRow_heap _ _ _ _ _ _ e0, HR.out, below_setRow HB0.out (Nat.le_refl _) _, Nat.le_refl _⟩
  have HT := hid (rtoks_word w _ w.heap.size a cap zs hRr)
  clear hRr e0
  generalize (w.alloc (.cells #[.slice none 0 0, .int .u8 0, .int .i64 0] 82)).setRow w.heap.size #[.slice a len cap, .int .u8 0, .int .i64 0] = w1 at *
  refine HT.out.mono ?_
  intro e w2 he
  unfold RtkPost at he
  cases ht : toksR zs with
  | none =>
    rw [ht] at he HU
    obtain ⟨rfl, _, hb⟩ := he
    have hU := HU.out
    dsimp only at hU
    subst hU
    exact ⟨rfl, hb, rfl⟩
  | some ls =>
    obtain ⟨l, s'⟩ := ls
    rw [ht] at he HU
    obtain ⟨v, rfl, hown, hq, _⟩ := he
    obtain ⟨hin, hle⟩ := toksR_rng ht
    obtain ⟨a2, c2, rfl, hrt⟩ := Rt.ownZ hown hin
    have hb2 := hq.bel
    have HP := hid (pack_any a2 c2 l w2 hrt (by have := HL.out; omega))
    have HRT := hid hrt
    have HB2 := hid hb2
    dsimp only at HU
    clear hown hq hin hle hrt hb2 ht HT
    obtain ⟨ll, hll⟩ : ∃ n, n = l.length := ⟨_, rfl⟩
    have HLL := hid hll
    rw [← hll] at HP ⊢
    clear hll
    go_wp2_with fail
    refine HP.out.mono ?_
    rintro e w3 ⟨hb3, he⟩
    have hB3 := Bn HB2.out hb3
    have bx3 : w3.cell? ⟨gb, 0, none⟩ = some (.slice a len cap) := (hB3.cell (p := ⟨gb, 0, none⟩) HBX.out).trans hbx
    have HB3 := hid hB3
    have HRT3 := hid (HRT.out.later hb3)
    by_cases hz : (sizeO l).2 = 0
    · rw [if_pos hz] at he
      obtain ⟨a3, c3, rfl, hri⟩ := he
      have HE := hid (bequal_word a3 a c3 cap (packB l) zs w3 hri (HR.out.later hB3))
      clear hri hb3 hB3 hbx
      rw [← HL.out] at HE
      generalize hpb : (packB l).length = pl at *
      clear hpb
      go_wp2_with fail
      refine HE.out.mono ?_
      rintro _ w4 ⟨rfl, hw⟩
      obtain rfl := hw.symm
      clear hw HE
      by_cases hp : packB l = zs
      · have hpb : (packB l == zs) = true := beq_iff_eq.2 hp
        have hU := HU.out
        rw [if_pos ⟨hz, hp⟩] at hU
        subst hU
        rw [hpb]
        clear hpb HU
        go_wp2_with fail
        refine (need_yes w3).mono ?_
        rintro _ w4 ⟨rfl, hw⟩
        obtain rfl := hw.symm
        clear hw
        go_wp2_with fail
        go_ret
        refine ⟨HB3.out, a2, c2, ?_, HRT3.out⟩
        rw [← HLL.out]
        rfl
      · have hpb : (packB l == zs) = false := beq_eq_false_iff_ne.2 hp
        have hU := HU.out
        rw [if_neg (fun q => hp q.2)] at hU
        subst hU
        rw [hpb]
        clear hpb HU
        go_wp2_with fail
        refine (need_no w3).mono ?_
        rintro _ w4 ⟨rfl, rfl⟩
        exact ⟨rfl, HB3.out, rfl⟩
    · rw [if_neg hz] at he
      subst he
      have hU := HU.out
      rw [if_neg (fun q => hz q.1)] at hU
      subst hU
      generalize (sizeO l).2 = z2 at *
      have hbeq : (z2 == 0) = false := beq_eq_false_iff_ne.2 hz
      have hbne : decide (z2 = 0) = false := decide_eq_false hz
      clear hb3 hB3 hbx HU
      go_wp2_with fail
      refine (need_no w3).mono ?_
      rintro _ w4 ⟨rfl, rfl⟩
      exact ⟨rfl, HB3.out, rfl⟩
theorem setCell_same {w : World} {g i : Nat} {cur : Array Value} {t : TypeId} {fr : Nat × Nat} {v : Value} (hg : w.heap[g]? = some (.cells cur t fr)) (hv : cur[i]? = some v) : w.setCell ⟨g, i, none⟩ v = w := by
  rw [setCell_eq_setRow w g i cur t fr v hg]
  have e : cur.setIfInBounds i v = cur := by
    apply Array.ext_getElem?
    intro j
    rw [Array.getElem?_setIfInBounds]
    split
    · rename_i h
      subst h
      split
      · exact hv.symm
      · rename_i h2
        simp [h2] at hv
    · rfl
  rw [e]
  exact setRow_self w g cur t fr hg
def UnpPost (zs : List Int) (w : World) (e : Ending) (w' : World) : Prop :=
  Below w.heap.size w w' ∧ match unpO zs with
  | none => e = .returned (.tuple #[.slice none 0 0, .int .i64 70])
  | some l => ∃ a c, e = .returned (.tuple #[.slice a l.length c, .int .i64 0]) ∧ Rt w' a c l
set_option maxHeartbeats 3200000 in
set_option maxRecDepth 100000 in
theorem unpack_word (a : Option Addr) (cap : Nat) (zs : List Int) (w : World) (hr : Ri w .u8 a cap zs) (hn : zs.length ≤ 4200) :
    Calls Tryz.prog 12 #[.slice a zs.length cap] w (UnpPost zs w) := by
  have hmf : ∀ (fn : Fn) (first cap : Array Value) (w : World), (Instr.makeFunc fn first cap).run Tryz.prog w = .ok (.func fn first cap) w := fun _ _ _ _ => rfl
  have hb1 := bel_alloc w (.cells #[.slice a zs.length cap] 24)
  have e1 := heap_new w (.cells #[.slice a zs.length cap] 24)
  have s1 : (w.alloc (.cells #[.slice a zs.length cap] 24)).heap.size = w.heap.size + 1 := by simp
  generalize hW1 : w.alloc (.cells #[.slice a zs.length cap] 24) = w1 at *
  have hb2 := bel_alloc w1 (.cells #[.int .i64 0] 25)
  have e2 := heap_new w1 (.cells #[.int .i64 0] 25)
  have hcl := ucl_word w.heap.size a cap zs (w1.alloc (.cells #[.int .i64 0] 25)) ((hb2.cell (p := ⟨w.heap.size, 0, none⟩) (by show w.heap.size < w1.heap.size; omega)).trans (by simpa using Joins.cell_of_block e1 0)) ((hr.later hb1).later hb2) hn
  have HCW := hid (caught_word ⟨w.heap.size, 0, none⟩ w1 (fun o w' => Below (w1.alloc (.cells #[.int .i64 0] 25)).heap.size (w1.alloc (.cells #[.int .i64 0] 25)) w' ∧ match unpO zs with | none => o = none | some l => ∃ a c, o = some (.slice a l.length c) ∧ Rt w' a c l) (hcl.mono (by
    rintro e w' ⟨hb, he⟩
    refine ⟨hb, ?_⟩
    cases hu : unpO zs with
    | none => rw [hu] at he; exact .inl ⟨he, hb, rfl⟩
    | some l =>
      rw [hu] at he
      obtain ⟨a2, c2, rfl, hrt⟩ := he
      exact .inr ⟨_, rfl, hb, a2, c2, rfl, hrt⟩)))
  have HB1 := hid hb1
  have HE2 := hid e2
  have HW1 := hid hW1
  have HN := hid hn
  clear hcl hb2 e2 hb1 s1 hr
  have c1 := Joins.cell_of_block e1 0
  simp only [List.getElem?_toArray, List.getElem?_cons_zero] at c1
  unfold UnpPost
  generalize unpO zs = R at *
  generalize zs.length = len at *
  have hlb : ¬ (262144 : Int) < (len : Int) := by have := HN.out; omega
  clear hn e1 hW1
  have HC1 := hid c1
  clear c1
  go_enter Tryz.func12, Tryz.ntmps12
  go_wp2_with fail
  rw [HW1.out]
  refine HCW.out.mono ?_
  rintro e w2 ⟨hb, ⟨wq, ⟨hbq, hG⟩, hw, rfl⟩ | ⟨v, wq, ⟨hbq, hG⟩, hw, rfl⟩⟩
  · have hR : R = none := by
      cases R with
      | none => rfl
      | some l => obtain ⟨_, _, h, _⟩ := hG; cases h
    subst hR
    have HB := hid (Bn HB1.out hb)
    clear hG hbq hw hb HCW
    go_wp2_with fail
    go_ret2
    exact ⟨HB.out, rfl⟩
  · have e3 := (hbq.block w1.heap.size (by simp)).trans HE2.out
    rw [setCell_same e3 (by simp)] at hw
    subst hw
    cases R with
    | none => cases hG
    | some l =>
      obtain ⟨a2, c2, h, hrt⟩ := hG
      have h' := Option.some.inj h
      subst h'
      have HB := hid (Bn HB1.out hb)
      have HRT := hid hrt
      clear hrt hbq hb HCW h e3
      obtain ⟨ll, hll⟩ : ∃ n, n = l.length := ⟨_, rfl⟩
      have HLL := hid hll
      rw [← hll]
      clear hll
      go_wp2_with fail
      go_ret2
      exact ⟨HB.out, a2, c2, by rw [← HLL.out]; rfl, HRT.out⟩
end Go.Proofs.YtelnefngkdfcoaaGreat
/-
  Plain facts: packed tokens are unpacked as they were.
-/
namespace Go.Proofs.YtelnefngkdfcoaaGreat
open Hf

theorem read_vint : ∀ (m f k : Nat) (x acc : Int) (rs : List Int), 0 ≤ x → x < 128 ^ (m + 1) → m ≤ f → k + m ≤ 8 → (0 < k → 0 < x) → readL acc k (vintL f x ++ rs) = (acc + x * 128 ^ k, (k : Int) + ((vintL f x).length : Int), 0)
  | m, f, k, x, acc, rs, h0, h1, hf, hk, hx => by
    by_cases hs : x < 128
    · rw [vint_last f x hs]
      have hb : badB k x = false := by
        unfold badB
        rw [decide_eq_false_iff_not]
        rintro (⟨h, _⟩ | ⟨h, h'⟩)
        · omega
        · have := hx h; omega
      rw [List.singleton_append, read_last hb hs, Int.emod_eq_of_lt h0 hs]
      simp
    · cases m with
      | zero => simp at h1; omega
      | succ m =>
        obtain ⟨f', rfl⟩ : ∃ f', f = f' + 1 := ⟨f - 1, by omega⟩
        rw [vint_more f' x hs, List.cons_append]
        have hb : badB k (x % 128 + 128) = false := by
          unfold badB
          rw [decide_eq_false_iff_not]
          rintro (⟨h, _⟩ | ⟨h, h'⟩) <;> omega
        have hd : x / 128 < 128 ^ (m + 1) := by
          rw [Int.ediv_lt_iff_lt_mul (by decide)]
          rw [Int.pow_succ] at h1
          exact h1
        rw [read_more hb (by omega), read_vint m f' (k + 1) (x / 128) _ rs (by omega) hd (by omega) (by omega) (fun _ => by omega)]
        simp only [Prod.mk.injEq, List.length_cons]
        refine ⟨?_, by omega, trivial⟩
        have e1 : (x % 128 + 128) % 128 = x % 128 := by omega
        have e2 : x = x % 128 + 128 * (x / 128) := by omega
        rw [e1, Int.pow_succ]
        generalize (128 : Int) ^ k = p at *
        conv => rhs; rw [e2]
        rw [Int.add_mul, Int.mul_comm p 128, ← Int.mul_assoc, Int.mul_comm (x / 128) 128, Int.add_assoc]
theorem numO_vint (n most : Nat) (rs : List Int) (h : n ≤ most) (hm : most ≤ 100000) : numO most (vint (n : Int) ++ rs) = some (n, rs) := by
  have h1 := read_vint 2 9 0 (n : Int) 0 rs (by omega) (by show (n : Int) < 2097152; omega) (by decide) (by decide) (fun h => by omega)
  unfold numO
  have e : readL 0 0 (vint (n : Int) ++ rs) = ((n : Int), ((vint (n : Int)).length : Int), 0) := by
    unfold vint
    rw [h1]; simp
  rw [e]
  dsimp only
  rw [if_pos ⟨rfl, by omega⟩, Int.toNat_natCast, Int.toNat_natCast, List.drop_left]
theorem run_split (z : Int) (l : List Int) : z :: l = List.replicate (runN z l + 1) z ++ l.drop (runN z l) := by
  have h : ∀ l : List Int, l = List.replicate (runN z l) z ++ l.drop (runN z l) := by
    intro l
    induction l with
    | nil => rfl
    | cons a l ih =>
      by_cases e : a = z
      · have : runN z (a :: l) = runN z l + 1 := by unfold runN; rw [List.takeWhile_cons_of_pos (by simp [e])]; rfl
        rw [this, List.replicate_succ, List.cons_append, List.drop_succ_cons, ← ih, e]
      · have : runN z (a :: l) = 0 := by unfold runN; rw [List.takeWhile_cons_of_neg (by simp [e])]; rfl
        rw [this]; rfl
  rw [List.replicate_succ, List.cons_append, ← h l]
theorem lensG_runs (n : Nat) (hn : n ≤ 1000) : ∀ (f : Nat) (zs : List Int) (F : Nat) (l rs : List Int), zs.length ≤ f → l.length + zs.length = n → (runsF f zs ++ rs).length + 1 ≤ F → lensG n F l (runsF f zs ++ rs) = some (l ++ zs, rs)
  | 0, zs, F, l, rs, h1, h2, h3 => by
    have : zs = [] := List.eq_nil_of_length_eq_zero (by omega)
    subst this
    cases F with
    | zero => omega
    | succ F =>
      rw [lensG.eq_def]
      dsimp only
      rw [if_neg (by simp at h2; omega)]
      simp [runsF]
  | f + 1, [], F, l, rs, h1, h2, h3 => by
    cases F with
    | zero => omega
    | succ F =>
      rw [lensG.eq_def]
      dsimp only
      rw [if_neg (by simp at h2; omega)]
      simp [runsF]
  | f + 1, z :: zs, F, l, rs, h1, h2, h3 => by
    cases F with
    | zero => omega
    | succ F =>
      have hs := run_split z zs
      have hl := congrArg List.length hs
      rw [List.length_append, List.length_replicate] at hl
      rw [List.length_cons] at h1 h2 hl
      rw [runsF, List.cons_append, List.append_assoc] at h3 ⊢
      rw [lensG, if_pos (by omega)]
      rw [numO_vint _ _ _ (by omega) (by omega)]
      dsimp only
      have hd : (zs.drop (runN z zs)).length ≤ f := by rw [List.length_drop]; omega
      rw [lensG_runs n hn f _ F _ rs hd (by rw [List.length_append, List.length_replicate]; omega) (by
        simp only [List.length_cons, List.length_append] at h3 ⊢
        omega), List.append_assoc, ← hs]
theorem lensR_runs (n : Nat) (hn : n ≤ 1000) (zs rs : List Int) (h : zs.length = n) : lensR n (runsL zs ++ rs) = some (zs, rs) := by
  unfold lensR runsL
  rw [lensG_runs n hn zs.length zs _ [] rs (Nat.le_refl _) (by simpa using h) (Nat.le_refl _), List.nil_append]

theorem kinds_mono (l : List Tkz) (j : Nat) : ∀ k, (kindsN l k).getD j 0 ≤ (kindsN l (k + 1)).getD j 0 := fun k => by
  rw [kindsN]
  unfold upL
  generalize (symZ (l.getD k tk0)).toNat = s
  by_cases e : s = j
  · by_cases hj : j < (kindsN l k).length
    · rw [e]; simp [List.getD, hj]
    · simp [List.getD, List.getElem?_eq_none (show (kindsN l k).length ≤ j by omega)]
  · simp [List.getD, List.getElem?_set_ne e]
theorem kinds_le2 (l : List Tkz) (j : Nat) : ∀ a b, a ≤ b → (kindsN l a).getD j 0 ≤ (kindsN l b).getD j 0
  | a, 0, h => by have : a = 0 := by omega
                  rw [this]; exact Nat.le_refl _
  | a, b + 1, h => by
    by_cases e : a = b + 1
    · rw [e]; exact Nat.le_refl _
    · exact Nat.le_trans (kinds_le2 l j a b (by omega)) (kinds_mono l j b)
theorem kinds_pos (l : List Tkz) (k : Nat) (hk : k < l.length) (hs : (symZ (l.getD k tk0)).toNat < 511) : 0 < (kindsN l l.length).getD (symZ (l.getD k tk0)).toNat 0 := by
  have h1 : 0 < (kindsN l (k + 1)).getD (symZ (l.getD k tk0)).toNat 0 := by
    rw [kindsN]
    unfold upL
    rw [List.getD_eq_getElem?_getD, List.getElem?_set_self (by rw [kinds_length]; exact hs)]
    simp
  exact Nat.lt_of_lt_of_le h1 (kinds_le2 l _ _ _ hk)
theorem dists_mono (l : List Tkz) (j : Nat) : ∀ k, (distsN l k).getD j 0 ≤ (distsN l (k + 1)).getD j 0 := fun k => by
  rw [distsN]
  split
  · unfold upL
    generalize (dstZ (l.getD k tk0).1).toNat = s
    by_cases e : s = j
    · by_cases hj : j < (distsN l k).length
      · rw [e]; simp [List.getD, hj]
      · simp [List.getD, List.getElem?_eq_none (show (distsN l k).length ≤ j by omega)]
    · simp [List.getD, List.getElem?_set_ne e]
  · exact Nat.le_refl _
theorem dists_le2 (l : List Tkz) (j : Nat) : ∀ a b, a ≤ b → (distsN l a).getD j 0 ≤ (distsN l b).getD j 0
  | a, 0, h => by have : a = 0 := by omega
                  rw [this]; exact Nat.le_refl _
  | a, b + 1, h => by
    by_cases e : a = b + 1
    · rw [e]; exact Nat.le_refl _
    · exact Nat.le_trans (dists_le2 l j a b (by omega)) (dists_mono l j b)
theorem dists_pos (l : List Tkz) (k : Nat) (hk : k < l.length) (h0 : 0 < (l.getD k tk0).1) (hs : (dstZ (l.getD k tk0).1).toNat < 13) : 0 < (distsN l l.length).getD (dstZ (l.getD k tk0).1).toNat 0 := by
  have h1 : 0 < (distsN l (k + 1)).getD (dstZ (l.getD k tk0).1).toNat 0 := by
    rw [distsN, if_pos h0]
    unfold upL
    rw [List.getD_eq_getElem?_getD, List.getElem?_set_self (by rw [dists_length]; exact hs)]
    simp
  exact Nat.lt_of_lt_of_le h1 (dists_le2 l _ _ _ hk)
theorem flats_pos (cs : List Int) (u : Nat) : ∀ j, 0 < cs.getD u 0 → 0 < (flats cs j).getD u 0
  | 0, h => h
  | j + 1, h => by
    have ih := flats_pos cs u j h
    rw [flats]
    have hu : u < (flats cs j).length := by
      rcases Nat.lt_or_ge u (flats cs j).length with h1 | h1
      · exact h1
      · rw [List.getD_eq_getElem?_getD, List.getElem?_eq_none h1] at ih; simp at ih
    rw [List.getD_eq_getElem?_getD, List.getElem?_eq_getElem hu] at ih
    rw [List.getD_eq_getElem?_getD, List.getElem?_map, List.getElem?_eq_getElem hu]
    simp only [Option.getD_some, Option.map_some] at ih ⊢
    unfold flatC
    rw [if_pos ih]; omega
theorem lenF_all {cs : List Int} (hn : cs.length ≤ 512) (hc : ∀ k, 0 ≤ cs.getD k 0 ∧ cs.getD k 0 ≤ 1073741824) : (lenF cs).length = cs.length ∧ checkB (lenF cs) = true ∧ ∀ u, u < cs.length → 0 < cs.getD u 0 → 0 < (lenF cs).getD u 0 := by
  obtain ⟨k, h1, h2⟩ := flats_some cs hn hc
  obtain ⟨h3, h4⟩ := lenF_facts hn hc h1 h2
  refine ⟨h3, h4, fun u hu h0 => ?_⟩
  rw [← lenF_eq hn hc h1 h2]
  have h5 := flats_pos cs u k h0
  rcases dep_cases (flats cs k) (flats_rng hc k) u (by rw [flats_length]; exact hu) with ⟨h, _⟩ | ⟨_, h⟩ <;> omega
end Go.Proofs.YtelnefngkdfcoaaGreat
/-
  What a row's code says ahead of all else: the contract of head.
-/
namespace Go.Proofs.YtelnefngkdfcoaaGreat
open Go.RowKit

def headO (zs : List Int) : Option ((Nat × Bool) × List Int) :=
  match zs with
  | [] => none
  | z :: zs1 => if z = 0 ∨ z = 1 then
      match numO 65536 zs1 with
      | none => none
      | some (n, rs) => some ((n, z == 1), rs)
    else none
def HedPost (w0 w : World) (g : Nat) (t : TypeId) (tl : List Value) (r : Option ((Nat × Bool) × List Int)) (e : Ending) (w' : World) : Prop :=
  match r with
  | none => e = .panicked faultC ∧ Fa g w w' ∧ Below w0.heap.size w0 w'
  | some ((n, p), rs) => e = .returned (.agg #[.int .i64 (n : Int), .bool p]) ∧ (∃ a c, Rr w0 w' g t tl a c rs) ∧ Fa g w w'
set_option maxHeartbeats 3200000 in
set_option maxRecDepth 100000 in
theorem head_word (w0 w : World) (g : Nat) (t : TypeId) (tl : List Value) (a : Option Addr) (cap : Nat) (zs : List Int) (h : Rr w0 w g t tl a cap zs) :
    Calls Tryz.prog 53 #[.pointer (some ⟨g, 0, none⟩)] w (HedPost w0 w g t tl (headO zs)) := by
  have e0 := heap_new w (.cells #[.int .i64 0, .bool false] 94)
  have HF0 := hid (Fa.alloc g w (.cells #[.int .i64 0, .bool false] 94))
  have hR0 := h.keep (Below.heap_alloc w (.cells #[.int .i64 0, .bool false] 94) g h.lt) (h.bel.alloc h.bel.size _)
  have HGL := hid h.lt
  have HW0 := hid h.bel.size
  clear h
  generalize hW : w.alloc (.cells #[.int .i64 0, .bool false] 94) = w1 at *
  have HW := hid hW
  clear hW
  have HB1 := hid hR0.bel
  obtain ⟨R, hR⟩ : ∃ R, R = headO zs := ⟨_, rfl⟩
  rw [← hR]
  have HR := hid hR
  clear hR
  cases zs with
  | nil =>
    have HN := hid (next_none w0 w1 g t tl a cap hR0)
    have hR := HR.out
    simp only [headO] at hR
    subst hR
    clear hR0 e0
    go_enter Tryz.func53, Tryz.ntmps53
    go_wp2_with fail
    rw [HW.out]
    refine HN.out.mono ?_
    rintro _ w2 ⟨rfl, hw⟩
    obtain rfl := hw.symm
    exact ⟨rfl, rfl, HF0.out, HB1.out⟩
  | cons z zs1 =>
    have HN := hid (next_some w0 w1 g t tl a cap z zs1 hR0)
    have HR0 := hid hR0
    have HE0 := hid e0
    clear hR0 e0
    go_enter Tryz.func53, Tryz.ntmps53
    go_wp2_with fail
    rw [HW.out]
    refine HN.out.mono ?_
    rintro _ w2 ⟨rfl, a2, c2, rfl, hr2⟩
    have hF2 := (Fg.refl g w1).put (i := 0) (.slice a2 zs1.length c2)
    have HR2 := hid (HR0.out.put hr2)
    have HF2 := hid (HF0.out.trans hF2.fa)
    have HE2 := hid ((hF2.same w.heap.size (by have := HGL.out; omega)).trans HE0.out)
    clear hr2 hF2 HR0 HF0 HE0 HN HB1
    generalize w1.setCell ⟨g, 0, none⟩ (.slice a2 zs1.length c2) = w3 at *
    by_cases hz : z = 0 ∨ z = 1
    · cases hnu : numO 65536 zs1 with
      | none =>
        have HNU := hid (number_none w0 w3 g t tl a2 c2 65536 zs1 HR2.out (by omega) hnu)
        have hR := HR.out
        simp only [headO, if_pos hz, hnu] at hR
        subst hR
        clear hnu
        rcases hz with rfl | rfl
        all_goals
          go_wp2_with fail
          refine (need_yes w3).mono ?_
          rintro _ w4 ⟨rfl, hw⟩
          obtain rfl := hw.symm
          clear hw
          go_wp2_with fail
          refine HNU.out.mono ?_
          rintro _ w4 ⟨rfl, hw⟩
          obtain rfl := hw.symm
          exact ⟨rfl, rfl, HF2.out, HR2.out.bel⟩
      | some nr =>
        obtain ⟨n, rs⟩ := nr
        have HNU := hid (number_some w0 w3 g t tl a2 c2 65536 zs1 HR2.out (by omega) n rs hnu)
        have hR := HR.out
        simp only [headO, if_pos hz, hnu] at hR
        clear hnu
        rcases hz with rfl | rfl
        all_goals
          subst hR
          go_wp2_with fail
          refine (need_yes w3).mono ?_
          rintro _ w4 ⟨rfl, hw⟩
          obtain rfl := hw.symm
          clear hw
          go_wp2_with fail
          refine HNU.out.mono ?_
          rintro _ w4 ⟨rfl, a4, c4, rfl, hr4⟩
          have hF4 := (Fg.refl g w3).put (i := 0) (.slice a4 rs.length c4)
          have HR4 := hid (HR2.out.put hr4)
          have HF4 := hid (HF2.out.trans hF4.fa)
          have HE4 := hid ((hF4.same w.heap.size (by have := HGL.out; omega)).trans HE2.out)
          clear hr4 hF4 HR2 HF2 HE2 HNU
          generalize w3.setCell ⟨g, 0, none⟩ (.slice a4 rs.length c4) = w5 at *
        · have q79 : (Tryz.prog.info? 94).map (·.size) = some (#[Value.int .i64 (n : Int), Value.bool false] : Array Value).size := by kernel_rfl
          have o79 : (#[Value.int .i64 (n : Int), Value.bool false] : Array Value).all (·.oneCell') = true := by simp [Value.oneCell']
          go_wp2_with (refine wpList_store_rowTo rfl 94 _ _ rfl rfl w.heap.size #[.int .i64 (n : Int), .bool false] rfl rfl 94 _ HE4.out q79 rfl o79 ?_)
          refine bodyPost_ret (results_cell_row (p := 2) (ty := 94) rfl _ _ w.heap.size 94 #[.int .i64 (n : Int), .bool false] (0, 0) _ rfl (setRow_heap _ _ _ _ _ _ HE4.out) Tryz.underlying94 rfl (by kernel_rfl)) rfl ?_
          exact ⟨rfl, ⟨_, _, HR4.out.keep (setRow_other _ _ _ _ (by have := HGL.out; omega)) (below_setRow HR4.out.bel HW0.out _)⟩, HF4.out.row (Nat.le_refl _) _⟩
        · have q79 : (Tryz.prog.info? 94).map (·.size) = some (#[Value.int .i64 (n : Int), Value.bool true] : Array Value).size := by kernel_rfl
          have o79 : (#[Value.int .i64 (n : Int), Value.bool true] : Array Value).all (·.oneCell') = true := by simp [Value.oneCell']
          go_wp2_with (refine wpList_store_rowTo rfl 94 _ _ rfl rfl w.heap.size #[.int .i64 (n : Int), .bool true] rfl rfl 94 _ HE4.out q79 rfl o79 ?_)
          refine bodyPost_ret (results_cell_row (p := 2) (ty := 94) rfl _ _ w.heap.size 94 #[.int .i64 (n : Int), .bool true] (0, 0) _ rfl (setRow_heap _ _ _ _ _ _ HE4.out) Tryz.underlying94 rfl (by kernel_rfl)) rfl ?_
          exact ⟨rfl, ⟨_, _, HR4.out.keep (setRow_other _ _ _ _ (by have := HGL.out; omega)) (below_setRow HR4.out.bel HW0.out _)⟩, HF4.out.row (Nat.le_refl _) _⟩
    · have hR := HR.out
      simp only [headO, if_neg hz] at hR
      subst hR
      have hz0 : (z == 0) = false := beq_eq_false_iff_ne.2 (fun q => hz (.inl q))
      have hz1 : (z == 1) = false := beq_eq_false_iff_ne.2 (fun q => hz (.inr q))
      go_wp2_with fail
      refine (need_no w3).mono ?_
      rintro _ w4 ⟨rfl, rfl⟩
      exact ⟨rfl, rfl, HF2.out, HR2.out.bel⟩
end Go.Proofs.YtelnefngkdfcoaaGreat
/-
  What tokens of bytes are, and that their bytes are these. Plain mathematics.
-/
namespace Go.Proofs.YtelnefngkdfcoaaGreat
open Go.RowKit Lz

def Cpy (bs : List Int) (q k : Nat) (s : Nat × Nat) : Prop := (s.1 = 0 ∧ s.2 = 3) ∨ (1 ≤ s.1 ∧ s.1 ≤ q ∧ s.1 ≤ 4096 ∧ 4 ≤ s.2 ∧ s.2 ≤ k ∧ s.2 = com bs (q - s.1) q k)
theorem cpy_better {bs : List Int} {q k : Nat} {s : Nat × Nat} (h : Cpy bs q k s) {p : Nat} (hp : p < q) (h4 : q - p ≤ 4096) : Cpy bs q k (better bs q k s p) := by
  unfold better
  split
  · rename_i hlt
    have := com_le bs k p q
    refine .inr ⟨by simp; omega, by simp, h4, ?_, this, ?_⟩
    · rcases h with ⟨_, h2⟩ | ⟨_, _, _, h2, _⟩ <;> simp <;> omega
    · simp only
      rw [show q - (q - p) = p from by omega]
  · exact h
theorem cpy_fold {bs : List Int} {q k : Nat} : ∀ (ps : List Nat) (s : Nat × Nat), Cpy bs q k s → (∀ p ∈ ps, p < q ∧ q - p ≤ 4096) → Cpy bs q k (ps.foldl (better bs q k) s)
  | [], _, h, _ => h
  | p :: ps, s, h, hp => cpy_fold ps _ (cpy_better h (hp p (by simp)).1 (hp p (by simp)).2) (fun x hx => hp x (by simp [hx]))
theorem cpy_best (bs : List Int) (q : Nat) : Cpy bs q (most bs q) (best bs q (most bs q) (aheadL q)) := cpy_fold _ _ (.inl ⟨rfl, rfl⟩) (fun _ hp => mem_aheadL hp)

theorem longT_cases (bs : List Int) (q : Nat) (hq : q < bs.length) : longT bs q = (0, 1, bs.getD q 0) ∨ ∃ d n, longT bs q = (d, n, 0) ∧ 1 ≤ d ∧ d ≤ q ∧ d ≤ 4096 ∧ 4 ≤ n ∧ n ≤ 258 ∧ q + n ≤ bs.length ∧ (∀ j, j < n → bs.getD (q - d + j) 0 = bs.getD (q + j) 0) ∧ (n < 258 → q + n < bs.length → bs.getD (q - d + n) 0 ≠ bs.getD (q + n) 0) := by
  have h := cpy_best bs q
  have hm : most bs q = min (bs.length - q) 258 := rfl
  unfold longT tokOf
  generalize best bs q (most bs q) (aheadL q) = s at *
  rcases h with ⟨h1, h2⟩ | ⟨h1, h2, h3, h4, h5, h6⟩
  · left; rw [if_pos h1]
  · right
    rw [if_neg (by omega)]
    refine ⟨s.1, s.2, rfl, h1, h2, h3, h4, by omega, by omega, fun j hj => ?_, fun h7 h8 => ?_⟩
    · exact com_same bs (most bs q) _ _ j (by omega)
    · have := com_stop bs (most bs q) (q - s.1) q (by omega)
      rw [← h6] at this
      exact this

theorem from_fit (bs : List Int) (h8 : Bytes8 bs) (hL : bs.length ≤ 65536) : ∀ (n q : Nat), bs.length - q ≤ n → ∀ t ∈ from_ bs q, t.1 ≤ 65536 ∧ t.2.1 ≤ 65536 ∧ (Lit.int .u8 t.2.2).wf = true
  | 0, q, h => by rw [from_end (by omega)]; intro t ht; cases ht
  | n + 1, q, h => by
    by_cases hq : q < bs.length
    · have hl := longT_len bs q hq
      rw [from_step hq]
      intro t ht
      rcases List.mem_cons.1 ht with rfl | ht
      · rcases longT_cases bs q hq with e | ⟨d, m, e, h1, h2, h3, h4, h5, _⟩
        · rw [e]; exact ⟨by dsimp only; omega, by dsimp only; omega, h8 q⟩
        · rw [e]; exact ⟨by dsimp only; omega, by dsimp only; omega, wf_zero _⟩
      · exact from_fit bs h8 hL n _ (by omega) t ht
    · rw [from_end hq]; intro t ht; cases ht
theorem tks_fit (bs : List Int) (h8 : Bytes8 bs) : ∀ t ∈ (tksO bs).1, t.1 ≤ 65536 ∧ t.2.1 ≤ 65536 ∧ (Lit.int .u8 t.2.2).wf = true := by
  unfold tksO
  split
  · intro t ht; cases ht
  · rw [toksL_from]; exact from_fit bs h8 (by omega) _ 0 (Nat.le_refl _)

theorem bytF_fit : ∀ (l : List Tkz) (b : List Int) (i : Nat), Bytes8 b → (∀ t ∈ l, (Lit.int .u8 t.2.2).wf = true) → Bytes8 (bytF b i l).1
  | [], _, _, h, _ => h
  | t :: l, b, i, h, hl => by
    unfold bytF
    split
    · exact bytF_fit l _ _ (bytes8_grow h (hl t (by simp))) (fun x hx => hl x (by simp [hx]))
    · intro j; rw [getD_out _ _ (by simp)]; exact wf_zero _
theorem take_snoc (bs : List Int) (k : Nat) (h : k < bs.length) : bs.take (k + 1) = bs.take k ++ [bs.getD k 0] := by
  rw [List.take_succ_eq_append_getElem h]
  simp [List.getD, h]
theorem cpy_take (bs : List Int) (q d n : Nat) (h1 : 1 ≤ d) (hd : d ≤ q) (hn : q + n ≤ bs.length) (hs : ∀ j, j < n → bs.getD (q - d + j) 0 = bs.getD (q + j) 0) : ∀ j, j ≤ n → cpyL (bs.take q) d j = bs.take (q + j)
  | 0, _ => rfl
  | j + 1, hj => by
    have ih := cpy_take bs q d n h1 hd hn hs j (by omega)
    have hl : (bs.take (q + j)).length = q + j := by simp; omega
    show cpyL (bs.take q) d j ++ [(cpyL (bs.take q) d j).getD ((cpyL (bs.take q) d j).length - d) 0] = _
    rw [ih, hl, getD_take bs (q + j) (q + j - d) (by omega), show q + (j + 1) = q + j + 1 from by omega, take_snoc bs (q + j) (by omega)]
    congr 2
    rw [← hs j (by omega)]
    congr 1
    omega

theorem flt_lit (x : Int) (m : Int) (hm : m + 1 ≤ 65536) : fltZ (0, 1, x) m = 0 := by
  have hk : kindZ (0, 1, x) = 1 := rfl
  unfold fltZ
  rw [hk, if_neg (by decide), if_neg (by omega), if_neg (by simp; omega)]
theorem flt_cpy (d n m : Int) (h1 : 1 ≤ d) (h2 : d ≤ 4096) (h3 : 4 ≤ n) (h4 : n ≤ 258) (h5 : d ≤ m) (h6 : m + n ≤ 65536) : fltZ (d, n, 0) m = 0 := by
  have hk : kindZ (d, n, 0) = 2 := by
    unfold kindZ litB cpyB
    simp only [Bool.and_eq_true, decide_eq_true_eq, beq_iff_eq]
    rw [if_neg (by omega), if_pos ⟨h1, h2, h3, h4, trivial⟩]
  unfold fltZ
  rw [hk, if_neg (by decide), if_neg (by simp; omega), if_neg (by simp; omega)]

theorem back_from (bs : List Int) (hL : bs.length ≤ 65536) : ∀ (n q i : Nat), q ≤ bs.length → bs.length - q ≤ n → bytF (bs.take q) i ((from_ bs q).map toZ) = (bs, 0, 0)
  | 0, q, i, hq, h => by
    rw [from_end (by omega), List.take_of_length_le (by omega)]; rfl
  | n + 1, q, i, hq, h => by
    by_cases hlt : q < bs.length
    · have hl : (bs.take q).length = q := by simp; omega
      rw [from_step hlt, List.map_cons]
      rcases longT_cases bs q hlt with e | ⟨d, m, e, h1, h2, h3, h4, h5, h6, h7, _⟩
      · rw [e]
        show (if fltZ (toZ (0, 1, bs.getD q 0)) (bs.take q).length = 0 then bytF (growZ (bs.take q) (toZ (0, 1, bs.getD q 0))) (i + 1) ((from_ bs (q + 1)).map toZ) else _) = _
        rw [hl, show toZ (0, 1, bs.getD q 0) = (0, 1, bs.getD q 0) from rfl, if_pos (flt_lit _ _ (by omega))]
        have hg : growZ (bs.take q) (0, 1, bs.getD q 0) = bs.take (q + 1) := by
          unfold growZ
          rw [if_pos rfl, take_snoc bs q hlt]
        rw [hg]
        exact back_from bs hL n (q + 1) (i + 1) (by omega) (by omega)
      · rw [e]
        show (if fltZ (toZ (d, m, 0)) (bs.take q).length = 0 then bytF (growZ (bs.take q) (toZ (d, m, 0))) (i + 1) ((from_ bs (q + m)).map toZ) else _) = _
        rw [hl, show toZ (d, m, 0) = ((d : Int), (m : Int), 0) from rfl, if_pos (flt_cpy _ _ _ (by omega) (by omega) (by omega) (by omega) (by omega) (by omega))]
        have hg : growZ (bs.take q) ((d : Int), (m : Int), 0) = bs.take (q + m) := by
          unfold growZ
          rw [if_neg (by simp; omega)]
          simp only [Int.toNat_natCast]
          exact cpy_take bs q d m h1 h2 h6 h7 m (Nat.le_refl _)
        rw [hg]
        exact back_from bs hL n (q + m) (i + 1) (by omega) (by omega)
    · rw [from_end hlt, List.take_of_length_le (by omega)]; rfl
theorem back_eq (bs : List Int) (_ : Bytes8 bs) (hL : bs.length ≤ 65536) : bytesO ((toksL bs).map toZ) = (bs, 0, 0) := by
  have := back_from bs hL _ 0 0 (by omega) (Nat.le_refl _)
  rw [toksL_from]
  exact this
end Go.Proofs.YtelnefngkdfcoaaGreat
