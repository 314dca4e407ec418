/-
  The contract of the document's Open; both Opens side by side.
-/
import Derived.Test.YtkipepodgmfbnaaDoorSealR
namespace Go.Proofs.YtkipepodgmfbnaaDoor
open Go.RowKit Sha

theorem rd_any {w : World} {B : Nat} {v : Value} {l : List Nat} {n : Nat} (hown : w.ownsRow B 5 1 v n (V l)) (hn : l.length = n) (hz : ∀ j, l.getD j 0 < 256) :
    ∃ a c, v = .slice a n c ∧ Rd w (.slice a n c) a c l := by
  subst hn
  have h' := hown
  rcases hown.2 with ⟨h0, h1⟩ | ⟨g, cp, cur, hv, hg, hh, hn, hcap, _, _⟩
  · refine ⟨none, 0, by rw [h0, h1], rfl, by omega, by unfold maxLen; omega, fun h => by omega, hz, fun _ => rfl⟩
  · subst hv
    refine ⟨_, cp, rfl, rfl, hn, hcap, fun _ => ⟨g, 0, rfl, (Array.getElem?_eq_some_iff.1 hh).1, fun j hj => ?_⟩, hz, fun h => by cases h⟩
    rw [Nat.zero_add, h'.cellAt j (by omega)]
    simp [V, List.getD, List.getElem?_eq_getElem hj]
theorem rd_nil (w : World) : Rd w (.slice none 0 0) none 0 [] := ⟨rfl, Nat.le_refl _, by unfold maxLen; omega, fun h => absurd h (by simp), fun j => by simp, fun _ => rfl⟩

/-- The bytes as a string: alike just where the bytes are. -/
theorem str_inj (l m : List Nat) (hl : ∀ j, l.getD j 0 < 256) (hm : ∀ j, m.getD j 0 < 256) (h : strOfNums (ints l) = strOfNums (ints m)) : l = m := by
  rw [str_bytes, str_bytes] at h
  have h1 : bytesU l = bytesU m := by
    injection h with h
    simpa using congrArg Array.toList h
  have key : ∀ q : List Nat, (∀ z ∈ q, z < 256) → (bytesU q).map UInt8.toNat = q := by
    intro q hq
    rw [bytesU, List.map_map]
    conv => rhs; rw [← List.map_id q]
    refine List.map_congr_left (fun z hz => ?_)
    have := hq z hz
    simp
    omega
  rw [← key l ((all_lt l).1 hl), ← key m ((all_lt m).1 hm), h1]
theorem eqB_iff (l m : List Nat) (hl : l.length = 32) (hm : m.length = 32) : eqB 32 l m = true ↔ l = m := by
  constructor
  · intro h
    apply List.ext_getElem (by omega)
    intro i h1 h2
    have := List.all_eq_true.1 h i (List.mem_range.2 (by omega))
    simpa [List.getD, List.getElem?_eq_getElem h1, List.getElem?_eq_getElem h2] using this
  · intro h
    rw [h]; exact eqB_same _ _

/-- What Open tells of bytes. -/
def openL (key z : List Nat) : List Nat × Int := if z.length < 32 then ([], 11) else if eqB 32 (hmac key (z.take (z.length - 32))) (z.drop (z.length - 32)) = true then (z.take (z.length - 32), 0) else ([], 40)

theorem open_any (a : Option Addr) (cap : Nat) (key : List Nat) (b : Option Addr) (capb : Nat) (z : List Nat) (w : World) (hl : Laid w) (hr : Rd w (.slice a key.length cap) a cap key) (hrb : Rd w (.slice b z.length capb) b capb z) (hk : key.length ≤ 3000) (hz : z.length ≤ 3000) :
    Calls Tryd.prog 16 #[.slice a key.length cap, .slice b z.length capb] w fun e w' => (∃ x c, e = .returned (.tuple #[.slice x (openL key z).1.length c, .int .i64 (openL key z).2]) ∧ Rd w' (.slice x (openL key z).1.length c) x c (openL key z).1) ∧ Below w.heap.size w w' := by
  by_cases h32 : z.length < 32
  · have e : openL key z = ([], 11) := if_pos h32
    rw [e]
    refine (open_short a cap key.length b capb z.length w h32).mono fun e w' ⟨h1, h2⟩ => ⟨⟨none, 0, h1, rd_nil w'⟩, h2⟩
  · obtain ⟨n, hn⟩ : ∃ n, z.length = n + 32 := ⟨z.length - 32, by omega⟩
    have hn' : z.length - 32 = n := by omega
    refine (open_long a cap key b capb z n w hl hr hrb hk hz hn).mono fun e w' ⟨h1, h2⟩ => ⟨?_, h2⟩
    have e1 : openL key z = if eqB 32 (hmac key (z.take n)) (z.drop n) = true then (z.take n, 0) else ([], 40) := by rw [openL, if_neg h32, hn']
    rcases h1 with ⟨hq, v, he, hown⟩ | ⟨hq, he⟩
    · rw [if_pos hq] at e1
      rw [e1]
      have htl : (z.take n).length = n := by rw [List.length_take]; omega
      obtain ⟨x, c, hv, hrd⟩ := rd_any hown htl ((all_lt _).2 (fun y hy => (all_lt z).1 hrb.hi y (List.mem_of_mem_take hy)))
      refine ⟨x, c, ?_, ?_⟩
      · show e = .returned (.tuple #[.slice x (z.take n).length c, .int .i64 0])
        rw [he, hv, htl]
      · show Rd w' (.slice x (z.take n).length c) x c (z.take n)
        rw [htl]; exact hrd
    · rw [if_neg (by rw [hq]; decide)] at e1
      rw [e1]
      exact ⟨none, 0, he, rd_nil w'⟩

theorem openr_short (a : Option Addr) (cap : Nat) (kn : Nat) (b : Option Addr) (capb n : Nat) (w : World) (hn : n < 32) :
    Calls Tryd.prog 17 #[.slice a kn cap, .slice b n capb] w fun e w' => e = .returned (.tuple #[.slice none 0 0, .int .i64 11]) ∧ Below w.heap.size w w' := by
  have h1 : (n : Int) < 32 := by omega
  go_enter Tryd.func17, Tryd.ntmps17
  go_wp2
  go_ret2
  exact ⟨rfl, Below.refl _ _⟩

set_option maxHeartbeats 1600000 in
set_option maxRecDepth 100000 in
theorem openr_long (a : Option Addr) (cap : Nat) (key : List Nat) (b : Option Addr) (capb : Nat) (z : List Nat) (n : Nat) (w : World) (hr : Rd w (.slice a key.length cap) a cap key) (hrb : Rd w (.slice b z.length capb) b capb z) (hk : key.length ≤ 3000) (hz : z.length ≤ 3000) (hn : z.length = n + 32) :
    Calls Tryd.prog 17 #[.slice a key.length cap, .slice b z.length capb] w fun e w' => ((eqB 32 (hmac key (z.take n)) (z.drop n) = true ∧ ∃ x c, e = .returned (.tuple #[.slice x n c, .int .i64 0]) ∧ Rd w' (.slice x n c) x c (z.take n)) ∨ (eqB 32 (hmac key (z.take n)) (z.drop n) = false ∧ e = .returned (.tuple #[.slice none 0 0, .int .i64 40]))) ∧ Below w.heap.size w w' := by
  have htl : (z.take n).length = n := by rw [List.length_take]; omega
  have hdl : (z.drop n).length = 32 := by rw [List.length_drop]; omega
  have hroom := hrb.room
  have hmost := hrb.most
  unfold maxLen at hmost
  obtain ⟨bb, ob, hab, _, _⟩ := hrb.cells (by omega)
  subst hab
  have hrt := hrb.take n
  have HTX := hid hrb
  have HZH := hid hrb.hi
  have hSE : ∀ s : Bool, True := fun _ => trivial
  have HQ : Hid (strOfNums (ints (z.take n ++ hmac key (z.take n))) = strOfNums (ints z) ↔ eqB 32 (hmac key (z.take n)) (z.drop n) = true) := by
    show _ ↔ _
    rw [eqB_iff _ _ (hmac_length _ _) hdl]
    have hth : ∀ j, (z.take n).getD j 0 < 256 := (all_lt _).2 (fun y hy => (all_lt z).1 hrb.hi y (List.mem_of_mem_take hy))
    constructor
    · intro h
      have := str_inj _ _ (getD_app _ _ hth (hmac_lt _ _)) hrb.hi h
      have h2 : z.take n ++ hmac key (z.take n) = z.take n ++ z.drop n := this.trans (List.take_append_drop n z).symm
      exact List.append_cancel_left h2
    · intro h
      rw [h, List.take_append_drop]
  have b1 := bel_alloc w (.cells #[] 5)
  have ho1 := own_lit0 w
  have s1 : (w.alloc (.cells #[] 5)).heap.size = w.heap.size + 1 := by simp
  have hrt1 := hrt.later b1
  have hq3 : ([] : List Nat).length + (z.take n).length ≤ 1000000 := by rw [htl]; simp; omega
  have HR := hid hr
  have hnc : n ≤ capb := by omega
  have HTL := hid htl
  have hth : ∀ j, (z.take n).getD j 0 < 256 := (all_lt _).2 (fun y hy => (all_lt z).1 hrb.hi y (List.mem_of_mem_take hy))
  have HTH := hid hth
  have HML := hid (hmac_length key (z.take n))
  have HMT := hid (hmac_lt key (z.take n))
  have HSR := hid (fun (W : World) (h : Below w.heap.size w W) (x : Option Addr) (c : Nat) (hx : Rd W (.slice x (z.take n).length c) x c (z.take n)) => seal_ref a cap key x c (z.take n) W (hr.later h) hx hk (by omega))
  clear hr hrb hroom hrt hth hSE
  generalize hmac key (z.take n) = M at *
  generalize z.take n = zt at *
  generalize z.drop n = zd at *
  have hnn : ((z.length : Nat) : Int) - 32 = (n : Int) := by omega
  have hlt : ¬ ((z.length : Nat) : Int) < 32 := by omega
  have hnz : n ≤ 3000 := by omega
  clear hn
  generalize eqB 32 M zd = q at *
  go_enter Tryd.func17, Tryd.ntmps17
  go_wp2_with (at_builtin; refine app_any _ rfl _ _ rfl w.heap.size _ [] rfl ho1 _ capb zt (by rw [htl]; rfl) hrt1 hq3 (by omega) ?_)
  intro v3 w3 ho3 hg3
  have hb3 : Below w.heap.size w w3 := b1.grown hg3 (by omega) (fun j hj => (ho1.lt j hj).1)
  obtain ⟨x3, c3, hv3, hrd3⟩ := rd_any ho3 HTL.out HTH.out
  subst hv3
  have HSR3 := hid (fun (W : World) (h : Below w3.heap.size w3 W) => HSR.out W (Bn hb3 h) x3 c3 (by rw [HTL.out]; exact hrd3.later h))
  rw [HTL.out] at HSR3
  have HRD3 := hid hrd3
  have HB3 := hid hb3
  have HTX3 := hid (HTX.out.later hb3)
  clear ho3 hg3 b1 ho1 hrt1 hrd3 HSR hq3
  go_wp2_with fail
  refine wp_region_held_drew (S := fun w' => Below w3.heap.size w3 w') (by as_aux_lemma => kernel_rfl) (Below.refl _ _).drew (fun hS => ?_)
  generalize w3.drew = wD at *
  refine Ord.take (i := 0) (d := 17) (v := ?v0) rfl rfl (by as_aux_lemma => kernel_rfl) (by as_aux_lemma => kernel_rfl) (by as_aux_lemma => kernel_rfl) (fun _ _ _ h => h) (by rfl) ?h0 (by assumption) ?_
  case h0 => intro w hSw; go_simp; try with_reducible rfl
  simp only [List.setIfInBounds_toArray, List.set_cons_zero, List.set_cons_succ]
  refine Ord.take (i := 1) (d := 18) (v := ?v1) rfl rfl (by as_aux_lemma => kernel_rfl) (by as_aux_lemma => kernel_rfl) (by as_aux_lemma => kernel_rfl) (fun _ _ _ h => h) (by rfl) ?h1 (by assumption) ?_
  case h1 => intro w hSw; go_simp; try with_reducible rfl
  simp only [List.setIfInBounds_toArray, List.set_cons_zero, List.set_cons_succ]
  refine Ord.take (i := 4) (d := 21) (v := ?v4) rfl rfl (by as_aux_lemma => kernel_rfl) (by as_aux_lemma => kernel_rfl) (by as_aux_lemma => kernel_rfl) (fun _ _ _ h => h) (by rfl) ?h4 (by assumption) ?_
  case h4 => intro w hSw; go_simp; try with_reducible rfl
  simp only [List.setIfInBounds_toArray, List.set_cons_zero, List.set_cons_succ]
  refine Ord.take (i := 5) (d := 22) (v := .string (strOfNums (ints z))) rfl rfl (by as_aux_lemma => kernel_rfl) (by as_aux_lemma => kernel_rfl) (by as_aux_lemma => kernel_rfl) (fun _ _ _ h => h) (by rfl) ?h5 (by assumption) ?_
  case h5 => intro w hSw; have hh := HTX3.out.text w hSw; go_simp; try with_reducible rfl
  simp only [List.setIfInBounds_toArray, List.set_cons_zero, List.set_cons_succ]
  refine wpAnyH_ready (rs := [2]) (by as_aux_lemma => kernel_rfl) (by simp) (AllReadyH.cons rfl (fun K hK => ?_) AllReadyH.nil)
  go_simp
  refine (HSR3.out wD hS).mono ?_
  rintro _ w4 ⟨v4, rfl, ho4, hb4⟩
  have hml : (zt ++ M).length = n + 32 := by rw [List.length_append, HTL.out, HML.out]
  rw [hml] at ho4
  obtain ⟨x4, c4, hv4, hrd4⟩ := rd_any ho4 hml (getD_app _ _ HTH.out HMT.out)
  subst hv4
  have hS4 := Bn hS hb4
  refine hK.out _ _ hS4 (fun _ => ?_)
  clear hK K ho4
  refine Ord.more (S' := fun w' => Below w3.heap.size w3 w' ∧ Below w4.heap.size w4 w') (fun _ h => h.1) _ _ _ _ ?_
  have hP4 : Below w3.heap.size w3 w4 ∧ Below w4.heap.size w4 w4 := ⟨hS4, Below.refl _ _⟩
  have HT4 := hid (fun (W : World) (h : Below w4.heap.size w4 W) => (show Rd w4 (.slice x4 (zt ++ M).length c4) x4 c4 (zt ++ M) by rw [hml]; exact hrd4).text W h)
  rw [hml] at HT4
  generalize hsA : strOfNums (ints (zt ++ M)) = sA at *
  generalize hsB : strOfNums (ints z) = sB at *
  refine Ord.take (i := 3) (d := 20) (v := .string sA) rfl rfl (by as_aux_lemma => kernel_rfl) (by as_aux_lemma => kernel_rfl) (by as_aux_lemma => kernel_rfl) (fun _ _ _ h => h) (by rfl) ?h3 (by assumption) ?_
  case h3 => intro w hSw; have hh := HT4.out w hSw.2; go_simp; try with_reducible rfl
  simp only [List.setIfInBounds_toArray, List.set_cons_zero, List.set_cons_succ]
  by_cases hqs : sA = sB
  · have hq := HQ.out.1 hqs
    subst hqs hq
    refine Ord.take (i := 6) (d := 23) (v := .bool false) rfl rfl (by as_aux_lemma => kernel_rfl) (by as_aux_lemma => kernel_rfl) (by as_aux_lemma => kernel_rfl) (fun _ _ _ h => h) (by rfl) ?h6 (by assumption) ?_
    case h6 => intro w hSw; go_simp; try with_reducible rfl
    simp only [List.setIfInBounds_toArray, List.set_cons_zero, List.set_cons_succ]
    refine wpAnyH_done (by as_aux_lemma => kernel_rfl) ?_ _
    have HE := hid (Bn HB3.out hS4)
    have hrd := HRD3.out.later hS4
    clear hS hS4 hP4 hb4 hrd4 HSR3
    go_wp2
    go_ret2
    exact ⟨⟨_, _, rfl, hrd⟩, HE.out⟩
  · have hq : q = false := by
      cases q with
      | false => rfl
      | true => exact absurd (HQ.out.2 rfl) hqs
    have hd : ¬ sA.toList = sB.toList := fun h => hqs (by rw [ByteArray.toList_eq, ByteArray.toList_eq] at h; cases sA; cases sB; simpa using h)
    subst hq
    refine Ord.take (i := 6) (d := 23) (v := .bool true) rfl rfl (by as_aux_lemma => kernel_rfl) (by as_aux_lemma => kernel_rfl) (by as_aux_lemma => kernel_rfl) (fun _ _ _ h => h) (by rfl) ?h6 (by assumption) ?_
    case h6 => intro w hSw; go_simp; try with_reducible rfl
    simp only [List.setIfInBounds_toArray, List.set_cons_zero, List.set_cons_succ]
    refine wpAnyH_done (by as_aux_lemma => kernel_rfl) ?_ _
    have HE := hid (Bn HB3.out hS4)
    clear hS hS4 hP4 hb4 hrd4 HSR3
    go_wp2
    go_ret2
    exact ⟨rfl, HE.out⟩

theorem openr_any (a : Option Addr) (cap : Nat) (key : List Nat) (b : Option Addr) (capb : Nat) (z : List Nat) (w : World) (hr : Rd w (.slice a key.length cap) a cap key) (hrb : Rd w (.slice b z.length capb) b capb z) (hk : key.length ≤ 3000) (hz : z.length ≤ 3000) :
    Calls Tryd.prog 17 #[.slice a key.length cap, .slice b z.length capb] w fun e w' => (∃ x c, e = .returned (.tuple #[.slice x (openL key z).1.length c, .int .i64 (openL key z).2]) ∧ Rd w' (.slice x (openL key z).1.length c) x c (openL key z).1) ∧ Below w.heap.size w w' := by
  by_cases h32 : z.length < 32
  · have e : openL key z = ([], 11) := if_pos h32
    rw [e]
    refine (openr_short a cap key.length b capb z.length w h32).mono fun e w' ⟨h1, h2⟩ => ⟨⟨none, 0, h1, rd_nil w'⟩, h2⟩
  · obtain ⟨n, hn⟩ : ∃ n, z.length = n + 32 := ⟨z.length - 32, by omega⟩
    have hn' : z.length - 32 = n := by omega
    refine (openr_long a cap key b capb z n w hr hrb hk hz hn).mono fun e w' ⟨h1, h2⟩ => ⟨?_, h2⟩
    have e1 : openL key z = if eqB 32 (hmac key (z.take n)) (z.drop n) = true then (z.take n, 0) else ([], 40) := by rw [openL, if_neg h32, hn']
    rcases h1 with ⟨hq, x, c, he, hrd⟩ | ⟨hq, he⟩
    · rw [if_pos hq] at e1
      rw [e1]
      have htl : (z.take n).length = n := by rw [List.length_take]; omega
      refine ⟨x, c, ?_, ?_⟩
      · show e = .returned (.tuple #[.slice x (z.take n).length c, .int .i64 0])
        rw [he, htl]
      · show Rd w' (.slice x (z.take n).length c) x c (z.take n)
        rw [htl]; exact hrd
    · rw [if_neg (by rw [hq]; decide)] at e1
      rw [e1]
      exact ⟨none, 0, he, rd_nil w'⟩
end Go.Proofs.YtkipepodgmfbnaaDoor
