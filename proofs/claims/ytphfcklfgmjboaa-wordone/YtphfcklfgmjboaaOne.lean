/-
  WordOne is proved for every input: what word.Read tells has, as its varint, just the bytes that were read, whatever the bytes; no condition.
-/
import Derived.Test.YtphfcklfgmjboaaCut
import Derived.Test.YtphfcklfgmjboaaOneMath
import Derived.Test.YtphfcklfgmjboaaOrd
import Derived.Deep.RegionHeld
namespace Go.Proofs.Ytphfcklfgmjboaa.wordOne
open Go.ChangeShapes Go.WideShapes Go.ChangeAt Go.RowKit

theorem own : ownKnob Try.prog.godebug = none := by kernel_rfl

theorem walk_err (a : Option Addr) (cap : Nat) (zs : List Int) (w : World) (hr : Rd w (.slice a zs.length cap) a cap zs) (he : (readL 0 0 (zs.take 400)).2.2 ≠ 0) (hx : (readL 0 0 (zs.take 400)).1 = 0) :
    Calls Try.prog 8 #[.slice a zs.length cap] w fun e w' => e = .returned (.bool true) ∧ Below w.heap.size w w' := by
  have hrt := hr.take 400
  have g : ((readL 0 0 (zs.take 400)).2.2 != 0) = true := by rw [bne_iff_ne]; exact he
  have HR := read_word a cap (zs.take 400) w hrt
  rw [hx] at HR
  generalize (readL 0 0 (zs.take 400)).2.1 = n at *
  generalize (readL 0 0 (zs.take 400)).2.2 = f at *
  have HR' := hid HR
  have HC := hid (cut_any a cap zs w hr)
  clear he HR hx hr hrt
  generalize (zs.take 400).length = m at *
  generalize zs.length = m0 at *
  go_enter Try.func8, Try.ntmps8
  go_wp2_with fail
  refine (HC.out).mono ?_
  rintro e w1 ⟨rfl, rfl⟩
  go_wp2_with fail
  refine (HR'.out).mono ?_
  rintro e w1 ⟨rfl, rfl⟩
  clear HR' HC
  go_wp2_with (go_at_call 11; refine (alive_any _).mono ?_; rintro e w' ⟨rfl, hb⟩)
  go_ret
  exact ⟨rfl, by assumption⟩

set_option maxHeartbeats 800000 in
theorem walk_ok (a : Option Addr) (cap : Nat) (zs : List Int) (w : World) (hr : Rd w (.slice a zs.length cap) a cap zs) (he : (readL 0 0 (zs.take 400)).2.2 = 0)
    (hx0 : 0 ≤ (readL 0 0 (zs.take 400)).1) (hx1 : (readL 0 0 (zs.take 400)).1 < 18446744073709551616) (m : Nat) (hm : (readL 0 0 (zs.take 400)).2.1 = m) (hm1 : 1 ≤ m) (hm2 : m ≤ (zs.take 400).length)
    (hv : vint (readL 0 0 (zs.take 400)).1 = (zs.take 400).take m) :
    Calls Try.prog 8 #[.slice a zs.length cap] w fun e w' => e = .returned (.bool true) ∧ Below w.heap.size w w' := by
  have hrt := hr.take 400
  have hcap := hrt.room
  have hmax := hrt.most
  unfold maxLen at hmax
  obtain ⟨b, off, rfl, _, _⟩ := hrt.cells (by omega)
  have HR := read_word (some ⟨b, off, none⟩) cap (zs.take 400) w hrt
  rw [he, hm] at HR
  have HR' := hid HR
  have HC := hid (cut_any (some ⟨b, off, none⟩) cap zs w hr)
  have H1 := hid (fun w : World => var_word (readL 0 0 (zs.take 400)).1 w hx0 hx1)
  have hbytes := vint_bytes (readL 0 0 (zs.take 400)).1 hx0 hx1
  have hne := vintL_ne 9 (readL 0 0 (zs.take 400)).1
  have hne' : 0 < (vint (readL 0 0 (zs.take 400)).1).length := hne
  rw [hv] at hbytes hne' H1
  have HB : Hid (∀ (W : World) (B : Nat) (v : Value), W.ownsRow B 5 1 v ((zs.take 400).take m).length (((zs.take 400).take m).map (Value.int .u8)) → ∀ W', Below W.heap.size W W' → (convert 30 9 v).run Try.prog W' = .ok (.string (strOfNums ((zs.take 400).take m))) W') := by
    intro W B v hown W' hb
    obtain ⟨a1, c1, hr1⟩ := Rd.own hown hne' hbytes
    exact hr1.text W' hb
  have ht0 : ∀ W, Below w.heap.size w W → (convert 30 9 (.slice (some ⟨b, off, none⟩) m cap)).run Try.prog W = .ok (.string (strOfNums ((zs.take 400).take m))) W := by
    intro W hb
    have h := (hrt.take m).text W hb
    rw [show ((zs.take 400).take m).length = m from by rw [List.length_take]; omega] at h
    exact h
  clear HR hr hrt he hm hv hbytes hne hne'
  generalize (readL 0 0 (zs.take 400)).1 = x at *
  generalize (zs.take 400).take m = l at *
  generalize (zs.take 400).length = n at *
  generalize zs.length = n0 at *
  have hm3 : (1 : Int) ≤ (m : Int) := by omega
  have hm4 : (m : Int) ≤ (n : Int) := by omega
  have hm5 : (n : Int) ≤ (cap : Int) := by omega
  have hm6 : m ≤ cap := by omega
  clear hx0 hx1
  go_enter Try.func8, Try.ntmps8
  go_wp2_with fail
  refine (HC.out).mono ?_
  rintro e w1 ⟨rfl, rfl⟩
  go_wp2_with fail
  refine (HR'.out).mono ?_
  rintro e w1 ⟨rfl, rfl⟩
  clear HC HR'
  go_wp2_with fail
  refine wp_region_held_drew (S := fun w' => Below w1.heap.size w1 w') (by kernel_rfl) (Below.refl _ _).drew (fun hS => ?_)
  refine Ord.take (i := 0) (d := 21) (v := ?v0) rfl rfl (by kernel_rfl) (by kernel_rfl) (by kernel_rfl) (fun _ _ _ h => h) (by rfl) ?h0 (by assumption) ?_
  case h0 => intro w hSw; go_simp; try with_reducible rfl
  simp only [List.setIfInBounds_toArray, List.set_cons_zero, List.set_cons_succ]
  refine Ord.take (i := 1) (d := 22) (v := ?v1) rfl rfl (by kernel_rfl) (by kernel_rfl) (by kernel_rfl) (fun _ _ _ h => h) (by rfl) ?h1 (by assumption) ?_
  case h1 => intro w hSw; go_simp; try with_reducible rfl
  simp only [List.setIfInBounds_toArray, List.set_cons_zero, List.set_cons_succ]
  refine Ord.take (i := 2) (d := 23) (v := ?v2) rfl rfl (by kernel_rfl) (by kernel_rfl) (by kernel_rfl) (fun _ _ _ h => h) (by rfl) ?h2 (by assumption) ?_
  case h2 => intro w hSw; go_simp; try with_reducible rfl
  simp only [List.setIfInBounds_toArray, List.set_cons_zero, List.set_cons_succ]
  refine Ord.take (i := 3) (d := 24) (v := ?v3) rfl rfl (by kernel_rfl) (by kernel_rfl) (by kernel_rfl) (fun _ _ _ h => h) (by rfl) ?h3 (by assumption) ?_
  case h3 => intro w hSw; go_simp; try with_reducible rfl
  simp only [List.setIfInBounds_toArray, List.set_cons_zero, List.set_cons_succ]
  refine Ord.take (i := 4) (d := 25) (v := ?v4) rfl rfl (by kernel_rfl) (by kernel_rfl) (by kernel_rfl) (fun _ _ _ h => h) (by rfl) ?h4 (by assumption) ?_
  case h4 => intro w hSw; go_simp; try with_reducible rfl
  simp only [List.setIfInBounds_toArray, List.set_cons_zero, List.set_cons_succ]
  refine Ord.take (i := 5) (d := 26) (v := ?v5) rfl rfl (by kernel_rfl) (by kernel_rfl) (by kernel_rfl) (fun _ _ _ h => h) (by rfl) ?h5 (by assumption) ?_
  case h5 => intro w hSw; go_simp; try with_reducible rfl
  simp only [List.setIfInBounds_toArray, List.set_cons_zero, List.set_cons_succ]
  refine Ord.take (i := 6) (d := 27) (v := ?v6) rfl rfl (by kernel_rfl) (by kernel_rfl) (by kernel_rfl) (fun _ _ _ h => h) (by rfl) ?h6 (by assumption) ?_
  case h6 => intro w hSw; go_simp; try with_reducible rfl
  simp only [List.setIfInBounds_toArray, List.set_cons_zero, List.set_cons_succ]
  refine Ord.take (i := 7) (d := 28) (v := ?v7) rfl rfl (by kernel_rfl) (by kernel_rfl) (by kernel_rfl) (fun _ _ _ h => h) (by rfl) ?h7 (by assumption) ?_
  case h7 => intro w hSw; go_simp; try with_reducible rfl
  simp only [List.setIfInBounds_toArray, List.set_cons_zero, List.set_cons_succ]
  refine Ord.take (i := 8) (d := 29) (v := ?v8) rfl rfl (by kernel_rfl) (by kernel_rfl) (by kernel_rfl) (fun _ _ _ h => h) (by rfl) ?h8 (by assumption) ?_
  case h8 => intro w hSw; go_simp; try with_reducible rfl
  simp only [List.setIfInBounds_toArray, List.set_cons_zero, List.set_cons_succ]
  refine Ord.take (i := 9) (d := 30) (v := ?v9) rfl rfl (by kernel_rfl) (by kernel_rfl) (by kernel_rfl) (fun _ _ _ h => h) (by rfl) ?h9 (by assumption) ?_
  case h9 => intro w hSw; go_simp; try with_reducible rfl
  simp only [List.setIfInBounds_toArray, List.set_cons_zero, List.set_cons_succ]
  refine Ord.take (i := 12) (d := 33) (v := ?v12) rfl rfl (by kernel_rfl) (by kernel_rfl) (by kernel_rfl) (fun _ _ _ h => h) (by rfl) ?h12 (by assumption) ?_
  case h12 => intro w hSw; go_simp; try with_reducible rfl
  simp only [List.setIfInBounds_toArray, List.set_cons_zero, List.set_cons_succ]
  refine Ord.take (i := 13) (d := 34) (v := ?v13) rfl rfl (by kernel_rfl) (by kernel_rfl) (by kernel_rfl) (fun _ _ _ h => h) (by rfl) ?h13 (by assumption) ?_
  case h13 => intro w hSw; go_simp; try with_reducible rfl
  simp only [List.setIfInBounds_toArray, List.set_cons_zero, List.set_cons_succ]
  refine Ord.take (i := 14) (d := 35) (v := ?v14) rfl rfl (by kernel_rfl) (by kernel_rfl) (by kernel_rfl) (fun _ _ _ h => h) (by rfl) ?h14 (by assumption) ?_
  case h14 => intro w hSw; go_simp; try with_reducible rfl
  simp only [List.setIfInBounds_toArray, List.set_cons_zero, List.set_cons_succ]
  refine Ord.take (i := 15) (d := 36) (v := ?v15) rfl rfl (by kernel_rfl) (by kernel_rfl) (by kernel_rfl) (fun _ _ _ h => h) (by rfl) ?h15 (by assumption) ?_
  case h15 => intro w hSw; go_simp; try with_reducible rfl
  simp only [List.setIfInBounds_toArray, List.set_cons_zero, List.set_cons_succ]
  refine wpAnyH_ready (rs := [10]) (by kernel_rfl) (by simp) (AllReadyH.cons rfl (fun K hK => ?_) AllReadyH.nil)
  go_simp
  refine (H1.out _).mono ?_
  rintro e w2 ⟨v2, rfl, hown2, hb2⟩
  have ht2 := HB.out _ _ _ hown2
  have hb12 : Below w1.heap.size w1 w2 := (Below.refl _ _).drew.trans hb2
  refine hK.out _ _ hb12 (fun _ => ?_)
  refine Ord.more (S' := fun w' => Below w1.heap.size w1 w' ∧ Below w2.heap.size w2 w') (fun _ h => h.1) _ _ _ _ ?_
  have hs2 : Below w1.heap.size w1 w2 ∧ Below w2.heap.size w2 w2 := ⟨hb12, Below.refl w2.heap.size w2⟩
  clear hown2 hK K hS
  refine Ord.take (i := 11) (d := 32) (v := ?v11) rfl rfl (by kernel_rfl) (by kernel_rfl) (by kernel_rfl) (fun _ _ _ h => h) (by rfl) ?h11 (by assumption) ?_
  case h11 => intro w hSw; go_simp; try with_reducible rfl
  simp only [List.setIfInBounds_toArray, List.set_cons_zero, List.set_cons_succ]
  refine Ord.take (i := 16) (d := 37) (v := ?v16) rfl rfl (by kernel_rfl) (by kernel_rfl) (by kernel_rfl) (fun _ _ _ h => h) (by rfl) ?h16 (by assumption) ?_
  case h16 => intro w hSw; go_simp; try with_reducible rfl
  simp only [List.setIfInBounds_toArray, List.set_cons_zero, List.set_cons_succ]
  refine Ord.take (i := 17) (d := 38) (v := ?v17) rfl rfl (by kernel_rfl) (by kernel_rfl) (by kernel_rfl) (fun _ _ _ h => h) (by rfl) ?h17 (by assumption) ?_
  case h17 => intro w hSw; go_simp; try with_reducible rfl
  simp only [List.setIfInBounds_toArray, List.set_cons_zero, List.set_cons_succ]
  refine Ord.take (i := 18) (d := 39) (v := ?v18) rfl rfl (by kernel_rfl) (by kernel_rfl) (by kernel_rfl) (fun _ _ _ h => h) (by rfl) ?h18 (by assumption) ?_
  case h18 => intro w hSw; go_simp; try with_reducible rfl
  simp only [List.setIfInBounds_toArray, List.set_cons_zero, List.set_cons_succ]
  refine wpAnyH_ready (rs := [19]) (by kernel_rfl) (by simp) (AllReadyH.cons rfl (fun K hK => ?_) AllReadyH.nil)
  go_simp
  refine (alive_any _).mono ?_
  rintro e w3 ⟨rfl, hb3⟩
  have hs3 : Below w1.heap.size w1 w3 ∧ Below w2.heap.size w2 w3 := ⟨Bn hb12 hb3, hb3⟩
  refine hK.out _ _ hs3 (fun _ => ?_)
  clear hK K
  refine Ord.take (i := 20) (d := 41) (v := ?v20) rfl rfl (by kernel_rfl) (by kernel_rfl) (by kernel_rfl) (fun _ _ _ h => h) (by rfl) ?h20 (by assumption) ?_
  case h20 => intro w hSw; go_simp; try with_reducible rfl
  simp only [List.setIfInBounds_toArray, List.set_cons_zero, List.set_cons_succ]
  refine Ord.take (i := 21) (d := 2) (v := ?v21) rfl rfl (by kernel_rfl) (by kernel_rfl) (by kernel_rfl) (fun _ _ _ h => h) (by rfl) ?h21 (by assumption) ?_
  case h21 => intro w hSw; go_simp; try with_reducible rfl
  simp only [List.setIfInBounds_toArray, List.set_cons_zero, List.set_cons_succ]
  refine wpAnyH_done (by kernel_rfl) ?_ _
  go_wp2
  go_ret
  exact ⟨rfl, Bn hb12 hb3⟩

theorem walk (a : Option Addr) (cap : Nat) (zs : List Int) (w : World) (hr : Rd w (.slice a zs.length cap) a cap zs) :
    Calls Try.prog 8 #[.slice a zs.length cap] w fun e w' => e = .returned (.bool true) ∧ Below w.heap.size w w' := by
  rcases read_one (zs.take 400) (fun j => ⟨(hr.take 400).lo j, (hr.take 400).hi j⟩) with ⟨h1, h2⟩ | ⟨he, hx0, hx1, m, hm, hm1, hm2, hv⟩
  · exact walk_err a cap zs w hr h1 h2
  · exact walk_ok a cap zs w hr he hx0 hx1 m hm hm1 hm2 hv

set_option maxRecDepth 100000 in
theorem lifted (os : Os) (started : os.Started) (H : Type) (enc : TypeId × Value → H) :
    ReturnsInHanded {} Try.checked os 8 .any (Rows.wordOneSpec.pre6 enc Try.prog Try.f8 Rows.wordOneRow.domain false) (Rows.wordOneSpec.post enc Try.prog Try.f8 false true false false) := by
  refine returnsInHanded_of_change (C := Try.checked) own started (by kernel_rfl) Try.func8
    (ChangeSpec.witness6 (enc := enc) (C := Try.checked) false ⟨#[], #[.slice none 0 0], []⟩ 8 (by kernel_rfl) (by kernel_rfl) (by kernel_rfl) (by kernel_rfl)) ?_
  intro W base args ds gs before hval0 hW _ _
  have hval : ∀ (j : Nat) t v, Try.f8.params[j]? = some t → args[j]? = some v → Value.okWide Try.prog W .any base t v := hval0
  have hW' := hW
  obtain ⟨p, q, hA0, hV, rfl, _, _⟩ := hW
  have hA : DataW.TrodAll enc Try.prog W 0 (fun _ => true) true Try.f8.params.toList args.toList ds p := hA0
  rw [Try.params8] at hA hval
  obtain ⟨v0, vs0, d0, ds0, p0, q0, hargs, rfl, rfl, h0, r0⟩ := trodAll_cons hA
  obtain ⟨rfl, rfl, rfl⟩ := trodAll_nil r0
  obtain rfl : args = #[v0] := by cases args; simp_all
  obtain ⟨rfl, rfl⟩ := trodVars_none hV
  clear hA0
  simp only [List.append_nil] at hW'
  have hlt0 : ∀ x ∈ p0, x.block < W.heap.size := fun x hx => hW'.lt x (by simp [hx])
  have hk0 := h0
  obtain ⟨a0, cap0, zs0, rfl, hr0⟩ := open_rd (hval 0 30 v0 rfl rfl) h0 hlt0
  clear hval0
  refine (walk a0 cap0 zs0 W hr0).mono fun e W' ⟨he, hb⟩ => ?_
  subst he
  exact ⟨_, rfl, _, _, _, [] ++ [], _, [], hW', trodAll_cons_mk (shut_bool Try.underlying4 _) trodAll_mk0, (trodAll_cons_mk (Below.trod Try.laidOut (by kernel_rfl) (of_decide_eq_true (by kernel_rfl)) hk0 hb hlt0) trodAll_mk0), rfl, hb.frame _, fun h => by cases h⟩

theorem over : Rows.wordOneRow.holds Try.pinned (OpenSpec.ofChange Rows.wordOneSpec) :=
  OpenClaim.holds_of_wide 8 Try.f8 rfl rfl rfl rfl rfl rfl rfl ⟨rfl, rfl, rfl, rfl, rfl⟩ rfl rfl rfl rfl rfl (by kernel_rfl) Try.func8 (by kernel_rfl)
    (of_decide_eq_true (by kernel_rfl)) (by unfold Func.isWrapper; first | (rw [if_pos (by decide +kernel)]; kernel_rfl) | (rw [if_neg (by decide +kernel)]; exact ⟨rfl, rfl⟩))
    (fun os started H enc _ => lifted os started H enc)

end Go.Proofs.Ytphfcklfgmjboaa.wordOne
namespace Go.Proofs.Ytphfcklfgmjboaa
theorem wordOne_holds : Rows.WordOneSaid := wordOne.over
#print axioms wordOne_holds
end Go.Proofs.Ytphfcklfgmjboaa
