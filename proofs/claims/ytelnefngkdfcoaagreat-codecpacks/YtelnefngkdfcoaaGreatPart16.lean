/-
  The contract of slices.SortStableFunc's inner function, at any numbers.
-/
import Derived.Test.YtelnefngkdfcoaaGreatPart15
import Derived.Test.YtelnefngkdfcoaaGreatPart02
import Derived.Test.YtelnefngkdfcoaaGreatPart10
import Derived.Test.YtelnefngkdfcoaaGreatPart03
import Derived.Test.YtelnefngkdfcoaaGreatPart11
import Derived.Test.YtelnefngkdfcoaaGreatPart00
namespace Go.Proofs.YtelnefngkdfcoaaGreat
open Go.RowKit Hf

structure Stb (cs o : List Int) (C : Nat → Prop) (n cap B gs : Nat) (w wr : World) (X : List Int) : Prop where
  gd : Gd cs C n X
  perm : X.Perm o
  len : X.length = n
  own : wr.ownsRow B 3 1 (.slice (some ⟨gs, 0, none⟩) n cap) n (X.map (Value.int .i64))
  grown : w.grownBy wr (some gs)
theorem Stb.iff {cs o : List Int} {C D : Nat → Prop} {n cap B gs : Nat} {w wr : World} {X : List Int} (h : Stb cs o C n cap B gs w wr X) (e : ∀ x, x < n → (C x ↔ D x)) : Stb cs o D n cap B gs w wr X := ⟨h.gd.iff e, h.perm, h.len, h.own, h.grown⟩

set_option maxHeartbeats 3200000 in
set_option maxRecDepth 100000 in
theorem stab_any (n cap B gb gs gc oc capc : Nat) (cs o : List Int) (w : World) (hcts : Cts w gb gs gc oc capc cs) (hn : n ≤ 100000) (hl : o.length = n) (hown : w.ownsRow B 3 1 (.slice (some ⟨gs, 0, none⟩) n cap) n (o.map (Value.int .i64))) (hcap : n ≤ cap) (ho : ∀ u ∈ o, 0 ≤ u ∧ u < (cs.length : Int)) (hinc : ∀ p q, p < q → q < n → o.getD p 0 < o.getD q 0) :
    Calls Tryz.prog 124 #[(.slice (some ⟨gs, 0, none⟩) n cap), .int .i64 (n : Int), .func (.func 119) #[] #[.pointer (some ⟨gb, 0, none⟩)]] w fun e w' => e = .returned (.tuple #[]) ∧ (∃ X, Sorted cs 0 n o X ∧ w'.ownsRow B 3 1 (.slice (some ⟨gs, 0, none⟩) n cap) n (X.map (Value.int .i64))) ∧ w.grownBy w' (some gs) := by
  have HS0 : Hid (Stb cs o (C20 0) n cap B gs w w o) := ⟨Gd.start hinc _ (fun x => Or.inl (Nat.zero_le _)), List.Perm.refl _, hl, hown, World.grownBy.refl _ _⟩
  have HI : Hid (∀ (a b : Nat) (X : List Int) (W : World) (C : Nat → Prop), Stb cs o C n cap B gs w W X → a ≤ b → b ≤ n → (a = 0 ∨ C a) → (b = n ∨ C b) → (∀ x, a < x → x < b → C x) →
      Calls Tryz.prog 126 #[(.slice (some ⟨gs, 0, none⟩) n cap), .int .i64 (a : Int), .int .i64 (b : Int), .func (.func 119) #[] #[.pointer (some ⟨gb, 0, none⟩)]] W fun e w' => e = .returned (.tuple #[]) ∧ ∃ Y, Stb cs o (fun x => C x ∧ ¬ (a < x ∧ x < b)) n cap B gs w w' Y) := by
    intro a b X W C h h1 h2 h3 h4 h5
    refine (ins_word a b n cap B gb gs gc oc capc cs X W (hcts.kept h.grown) h1 h2 hn h.len h.own hcap (fun u hu => ho u (h.perm.subset hu)) (fun p q e1 e2 e3 => (h.gd p q e2 (by omega)).2 q e2 (Nat.le_refl _) (h5 q (by omega) e3))).mono ?_
    rintro e w' ⟨he, ⟨Y, hY, hw⟩, hg⟩
    exact ⟨he, Y, h.gd.join hY h.len h2 h3 h4, hY.perm.trans h.perm, by rw [hY.perm.length_eq, h.len], hw, grown_trans h.grown hg⟩
  have HM : Hid (∀ (a m b : Nat) (X : List Int) (W : World) (C : Nat → Prop), Stb cs o C n cap B gs w W X → a < m → m < b → b ≤ n → (a = 0 ∨ C a) → (b = n ∨ C b) → C m → (∀ x, a < x → x < b → C x → x = m) →
      Calls Tryz.prog 127 #[(.slice (some ⟨gs, 0, none⟩) n cap), .int .i64 (a : Int), .int .i64 (m : Int), .int .i64 (b : Int), .func (.func 119) #[] #[.pointer (some ⟨gb, 0, none⟩)]] W fun e w' => e = .returned (.tuple #[]) ∧ ∃ Y, Stb cs o (fun x => C x ∧ ¬ (a < x ∧ x < b)) n cap B gs w w' Y) := by
    intro a m b X W C h h1 h2 h3 h4 h5 h6 h7
    refine (sym_word n cap B gb gs gc oc capc cs hn (b - a) a m b X W (Nat.le_refl _) (hcts.kept h.grown) h1 h2 h3 h.len h.own (fun u hu => ho u (h.perm.subset hu)) (h.gd.mrg h3 h6 h7 h1 (by omega))).mono ?_
    rintro e w' ⟨he, ⟨Y, hY, hw⟩, hg⟩
    exact ⟨he, Y, h.gd.join hY h.len h3 h4 h5, hY.perm.trans h.perm, by rw [hY.perm.length_eq, h.len], hw, grown_trans h.grown hg⟩
  have HL := hid hl
  clear hcts hl hown hcap ho hinc
  go_enter Tryz.func124, Tryz.ntmps124
  go_wp2
  go_loopw [7, 8] (fun x y wr => ∃ (a b : Nat), x = .int .i64 (a : Int) ∧ y = .int .i64 (b : Int) ∧ a ≤ n ∧ b ≤ n + 20 ∧ Hid (b = a + 20) ∧ Hid (20 ∣ a) ∧ Hid (∃ X, Stb cs o (C20 a) n cap B gs w wr X)) (fun x _ _ => n - (intOf x).toNat)
  case atStart => exact ⟨0, 20, rfl, rfl, by omega, by omega, rfl, ⟨0, rfl⟩, ⟨o, HS0.out⟩⟩
  case round =>
    obtain ⟨a, b, rfl, rfl, ha, hb, HE, HD, HX⟩ := hrel
    by_cases hbn : b ≤ n
    · have hbi : (b : Int) ≤ (n : Int) := by omega
      obtain ⟨X, hX⟩ := HX.out
      have HC := hid (HI.out a b X wr (C20 a) hX (by rw [HE.out]; omega) hbn (Or.inr (Or.inl (Nat.le_refl _))) (Or.inr (Or.inl (by rw [HE.out]; omega))) (fun x e1 e2 => Or.inl (by omega)))
      have hm : n - b < n - a := by have := HE.out; omega
      clear hX HX
      go_wp2_with fail
      refine HC.out.mono ?_
      rintro _ w1 ⟨rfl, Y, hY⟩
      have HY : Hid (∃ X, Stb cs o (C20 b) n cap B gs w w1 X) := ⟨Y, hY.iff (fun x _ => by rw [HE.out]; exact c20_step HD.out)⟩
      have HD2 : Hid (20 ∣ b) := by show 20 ∣ b; rw [HE.out]; exact (Nat.dvd_add_iff_right HD.out).1 (Nat.dvd_refl _)
      clear hY HC HD HE
      go_wp2
      exact ⟨⟨b, b + 20, rfl, by go_num, by omega, by omega, rfl, HD2.out, HY.out⟩, by simp [intOf]; omega⟩
    · have hbi : ¬ (b : Int) ≤ (n : Int) := by omega
      obtain ⟨X, hX⟩ := HX.out
      have HC := hid (HI.out a n X wr (C20 a) hX ha (Nat.le_refl _) (Or.inr (Or.inl (Nat.le_refl _))) (Or.inl rfl) (fun x e1 e2 => Or.inl (by omega)))
      clear hX HX
      have HN20 : Hid (n < a + 20) := by show n < a + 20; have := HE.out; omega
      clear HE
      go_wp2_with fail
      refine HC.out.mono ?_
      rintro _ w1 ⟨rfl, Y, hY⟩
      have HY : Hid (∃ X, Stb cs o (fun x => 20 ∣ x) n cap B gs w w1 X) := ⟨Y, hY.iff (fun x hx => c20_end HD.out HN20.out hx)⟩
      clear hY HC HD HN20 hbi hbn
      go_wp2
      go_loopw [6, 7, 8, 9] (fun x _ _ _ wr => ∃ (s : Nat), x = .int .i64 (s : Int) ∧ 20 ≤ s ∧ s ≤ 2 * n + 20 ∧ Hid (∃ X, Stb cs o (fun x => s ∣ x) n cap B gs w wr X)) (fun x _ _ _ _ => n - (intOf x).toNat)
      case atStart => exact ⟨20, rfl, by omega, by omega, HY.out⟩
      case round =>
        obtain ⟨s, rfl, hs1, hs2, HX⟩ := hrel
        by_cases hsn : s < n
        · have hsi : (s : Int) < (n : Int) := by omega
          have HX0 : Hid (∃ X, Stb cs o (CB s 0) n cap B gs w wr X) := by
            obtain ⟨X, hX⟩ := HX.out
            exact ⟨X, hX.iff (fun x _ => cb_start s x)⟩
          clear HX HY
          go_wp2
          go_loopw [7, 8] (fun x y wr => ∃ (a b : Nat), x = .int .i64 (a : Int) ∧ y = .int .i64 (b : Int) ∧ a ≤ n ∧ b ≤ n + 2 * s ∧ Hid (b = a + 2 * s) ∧ Hid (2 * s ∣ a) ∧ Hid (∃ X, Stb cs o (CB s a) n cap B gs w wr X)) (fun x _ _ => n - (intOf x).toNat)
          case atStart => exact ⟨0, 2 * s, rfl, by go_num, by omega, by omega, by show 2 * s = 0 + 2 * s; omega, ⟨0, rfl⟩, HX0.out⟩
          case round =>
            obtain ⟨a, b, rfl, rfl, ha, hb, HE, HD, HX⟩ := hrel
            have hs0 : 0 < s := by omega
            by_cases hbn : b ≤ n
            · have hbi : (b : Int) ≤ (n : Int) := by omega
              have HC : Hid (Calls Tryz.prog 127 #[(.slice (some ⟨gs, 0, none⟩) n cap), .int .i64 (a : Int), .int .i64 ((a : Int) + (s : Int)), .int .i64 (b : Int), .func (.func 119) #[] #[.pointer (some ⟨gb, 0, none⟩)]] wr fun e w' => e = .returned (.tuple #[]) ∧ ∃ X, Stb cs o (CB s b) n cap B gs w w' X) := by
                obtain ⟨X, hX⟩ := HX.out
                have e := HE.out
                have hd := HD.out
                have h := HM.out a (a + s) b X wr (CB s a) hX (by omega) (by omega) hbn (Or.inr (cb_at hd)) (Or.inr (by rw [e]; exact cb_next hd)) (cb_half hd) (fun x e1 e2 hc => cb_mid hs0 hd e1 (by omega) hc)
                rw [show ((a + s : Nat) : Int) = (a : Int) + (s : Int) from by omega] at h
                refine h.mono ?_
                rintro q w' ⟨hq, Y, hY⟩
                exact ⟨hq, Y, hY.iff (fun x _ => by rw [e]; exact cb_step hs0 hd)⟩
              have hm : n - b < n - a := by have := HE.out; omega
              have HD2 : Hid (2 * s ∣ b) := by show 2 * s ∣ b; rw [HE.out]; exact (Nat.dvd_add_iff_right HD.out).1 (Nat.dvd_refl _)
              have has : (a : Int) + (s : Int) ≤ (b : Int) := by have := HE.out; omega
              clear HX HE HD
              go_wp2_with fail
              refine HC.out.mono ?_
              rintro _ w1 ⟨rfl, hY⟩
              have HY := hid hY
              clear hY HC
              go_wp2
              exact ⟨⟨b, b + 2 * s, rfl, by go_num, by omega, by omega, rfl, HD2.out, HY.out⟩, by simp [intOf]; omega⟩
            · have hbi : ¬ (b : Int) ≤ (n : Int) := by omega
              by_cases hmn : a + s < n
              · have hmi : (a : Int) + (s : Int) < (n : Int) := by omega
                have HC : Hid (Calls Tryz.prog 127 #[(.slice (some ⟨gs, 0, none⟩) n cap), .int .i64 (a : Int), .int .i64 ((a : Int) + (s : Int)), .int .i64 (n : Int), .func (.func 119) #[] #[.pointer (some ⟨gb, 0, none⟩)]] wr fun e w' => e = .returned (.tuple #[]) ∧ ∃ X, Stb cs o (fun x => 2 * s ∣ x) n cap B gs w w' X) := by
                  obtain ⟨X, hX⟩ := HX.out
                  have e := HE.out
                  have hd := HD.out
                  have h := HM.out a (a + s) n X wr (CB s a) hX (by omega) (by omega) (Nat.le_refl _) (Or.inr (cb_at hd)) (Or.inl rfl) (cb_half hd) (fun x e1 e2 hc => cb_mid hs0 hd e1 (by omega) hc)
                  rw [show ((a + s : Nat) : Int) = (a : Int) + (s : Int) from by omega] at h
                  refine h.mono ?_
                  rintro q w' ⟨hq, Y, hY⟩
                  exact ⟨hq, Y, hY.iff (fun x hx => cb_end hs0 hd (by omega) hx)⟩
                clear HX HE HD
                go_wp2_with fail
                refine HC.out.mono ?_
                rintro _ w1 ⟨rfl, hY⟩
                have HY : Hid (∃ X, Stb cs o (fun x => s * 2 ∣ x) n cap B gs w w1 X) := by rw [Nat.mul_comm s 2]; exact hY
                clear hY HC
                go_wp2
                exact ⟨⟨s * 2, by go_num, by omega, by omega, HY.out⟩, by simp [intOf]; omega⟩
              · have hmi : ¬ (a : Int) + (s : Int) < (n : Int) := by omega
                have HY : Hid (∃ X, Stb cs o (fun x => s * 2 ∣ x) n cap B gs w wr X) := by
                  obtain ⟨X, hX⟩ := HX.out
                  exact ⟨X, hX.iff (fun x hx => by rw [Nat.mul_comm s 2]; exact cb_last hs0 HD.out (by omega) hx)⟩
                clear HX HE HD
                go_wp2
                exact ⟨⟨s * 2, by go_num, by omega, by omega, HY.out⟩, by simp [intOf]; omega⟩
        · have hsi : ¬ (s : Int) < (n : Int) := by omega
          have HEND : Hid ((∃ X, Sorted cs 0 n o X ∧ wr.ownsRow B 3 1 (.slice (some ⟨gs, 0, none⟩) n cap) n (X.map (Value.int .i64))) ∧ w.grownBy wr (some gs)) := by
            obtain ⟨X, hX⟩ := HX.out
            exact ⟨⟨X, hX.gd.end hX.perm HL.out (fun x h0 hx => dvd_low (by omega) h0 hx), hX.own⟩, hX.grown⟩
          clear HX HY HI HM
          go_wp2
          go_end0
          exact ⟨rfl, HEND.out⟩
end Go.Proofs.YtelnefngkdfcoaaGreat
/-
  The contracts of the document's Bits and Pack.
-/
namespace Go.Proofs.YtelnefngkdfcoaaGreat
open Go.RowKit Hf

theorem Tryz.info4 : (Tryz.prog.info? 4).map (fun i => (i.zero, i.size, i.bytes)) = some (some (.bool false), 1, 1) := by kernel_rfl

structure Rb (w : World) (a : Option Addr) (cap : Nat) (bs : List Bool) : Prop where
  room : bs.length ≤ cap
  most : cap ≤ maxLen
  cells : 0 < bs.length → ∃ b off, a = some ⟨b, off, none⟩ ∧ b < w.heap.size ∧ ∀ j, j < bs.length → w.cell? ⟨b, off + j, none⟩ = some (.bool (bs.getD j false))
theorem Rb.later {w w' : World} {a : Option Addr} {cap : Nat} {bs : List Bool} (h : Rb w a cap bs) (hb : Below w.heap.size w w') : Rb w' a cap bs := by
  refine ⟨h.room, h.most, fun h0 => ?_⟩
  obtain ⟨b, off, ha, hbw, hc⟩ := h.cells h0
  exact ⟨b, off, ha, Nat.lt_of_lt_of_le hbw hb.size, fun j hj => (hb.cell (p := ⟨b, off + j, none⟩) hbw).trans (hc j hj)⟩
theorem Rb.own {w : World} {base : Nat} {e : TypeId} {v : Value} {bs : List Bool} (h : w.ownsRow base e 1 v bs.length (bs.map Value.bool)) :
    ∃ a cap, v = .slice a bs.length cap ∧ Rb w a cap bs := by
  obtain ⟨hl, hn | ⟨g, cap, cur, rfl, hb, hg, hnc, hcm, hcur, htk⟩⟩ := id h
  · obtain ⟨rfl, h0⟩ := hn
    refine ⟨none, 0, by rw [h0], by omega, by unfold maxLen; omega, fun h1 => by omega⟩
  · refine ⟨some ⟨g, 0, none⟩, cap, rfl, hnc, hcm, fun h0 => ⟨g, 0, rfl, ?_, fun j hj => ?_⟩⟩
    · exact (Array.getElem?_eq_some_iff.1 hg).1
    · rw [Nat.zero_add, h.cellAt j (by omega), List.getElem?_map]
      simp [List.getD, List.getElem?_eq_getElem hj]

theorem own_some {w : World} {B e n : Nat} {v : Value} {xs : List Value} (h : w.ownsRow B e 1 v n xs) (hn : 0 < n) : ∃ g cap, v = .slice (some ⟨g, 0, none⟩) n cap ∧ B ≤ g ∧ n ≤ cap := by
  rcases h.2 with ⟨_, h0⟩ | ⟨g, cap, cur, hv, hb, hg, hnc, _⟩
  · omega
  · exact ⟨g, cap, hv, hb, hnc⟩

theorem halve (k : Nat) (hk : k < 8) : 2 ^ (7 - k) ≤ 128 := by
  have := Nat.pow_le_pow_right (show 0 < 2 by decide) (show 7 - k ≤ 7 by omega)
  simpa using this

end Go.Proofs.YtelnefngkdfcoaaGreat
/-
  The contracts of the writer's end and of huff.Encode.
-/
namespace Go.Proofs.YtelnefngkdfcoaaGreat
open Go.RowKit Hf

theorem Wr.slice {w : World} {g : Nat} {l : List Int} {o n : Nat} {v : Value} (h : Wr w g l o n v) : ∃ a m cap, v = .slice a m cap := own_slice h.row

theorem own_low {w : World} {B B' e n : Nat} {v : Value} {xs : List Value} (h : w.ownsRow B e 1 v n xs) (hB : B' ≤ B) : w.ownsRow B' e 1 v n xs := by
  refine ⟨h.1, ?_⟩
  rcases h.2 with h | ⟨g, cp, cur, h1, h2, h3⟩
  · exact Or.inl h
  · exact Or.inr ⟨g, cp, cur, h1, Nat.le_trans hB h2, h3⟩

end Go.Proofs.YtelnefngkdfcoaaGreat
/-
  The contracts of slices.SortStableFunc at 1000 numbers or fewer, and of byCount.
-/
namespace Go.Proofs.YtelnefngkdfcoaaGreat
open Go.RowKit Hf

def mostS : Nat := 1000

theorem stable_word (n cap B gb gs gc oc capc : Nat) (cs o : List Int) (w : World) (hcts : Cts w gb gs gc oc capc cs) (hn : n ≤ mostS) (hl : o.length = n)
    (hown : w.ownsRow B 3 1 (.slice (some ⟨gs, 0, none⟩) n cap) n (o.map (Value.int .i64))) (hcap : n ≤ cap) (ho : ∀ u ∈ o, 0 ≤ u ∧ u < (cs.length : Int)) (hinc : ∀ p q, p < q → q < n → o.getD p 0 < o.getD q 0) :
    Calls Tryz.prog 124 #[.slice (some ⟨gs, 0, none⟩) n cap, .int .i64 (n : Int), .func (.func 119) #[] #[.pointer (some ⟨gb, 0, none⟩)]] w fun e w' => e = .returned (.tuple #[]) ∧ (∃ X, Sorted cs 0 n o X ∧ w'.ownsRow B 3 1 (.slice (some ⟨gs, 0, none⟩) n cap) n (X.map (Value.int .i64))) ∧ w.grownBy w' (some gs) :=
  stab_any n cap B gb gs gc oc capc cs o w hcts (by unfold mostS at hn; omega) hl hown hcap ho hinc

theorem sortf_word (n cap B gb gs gc oc capc : Nat) (cs o : List Int) (w : World) (hcts : Cts w gb gs gc oc capc cs) (hn : n ≤ mostS) (hl : o.length = n)
    (hown : w.ownsRow B 3 1 (.slice (some ⟨gs, 0, none⟩) n cap) n (o.map (Value.int .i64))) (hcap : n ≤ cap) (ho : ∀ u ∈ o, 0 ≤ u ∧ u < (cs.length : Int)) (hinc : ∀ p q, p < q → q < n → o.getD p 0 < o.getD q 0) :
    Calls Tryz.prog 118 #[.slice (some ⟨gs, 0, none⟩) n cap, .func (.func 119) #[] #[.pointer (some ⟨gb, 0, none⟩)]] w fun e w' => e = .returned (.tuple #[]) ∧ (∃ X, Sorted cs 0 n o X ∧ w'.ownsRow B 3 1 (.slice (some ⟨gs, 0, none⟩) n cap) n (X.map (Value.int .i64))) ∧ w.grownBy w' (some gs) := by
  have HS := hid (stable_word n cap B gb gs gc oc capc cs o w hcts hn hl hown hcap ho hinc)
  clear hown hcts ho hinc hl hn
  go_enter Tryz.func118, Tryz.ntmps118
  go_wp2_with fail
  refine HS.out.mono ?_
  rintro _ w1 ⟨rfl, hX, hg⟩
  have HX := hid hX
  have HG := hid hg
  clear hX hg
  go_wp2
  go_end0
  exact ⟨rfl, HX.out, HG.out⟩

theorem ins_nil (a : Option Addr) (cp : Nat) (fv : Value) (w : World) : Calls Tryz.prog 126 #[.slice a 0 cp, .int .i64 0, .int .i64 0, fv] w fun e w' => e = .returned (.tuple #[]) ∧ w' = w := by
  go_enter Tryz.func126, Tryz.ntmps126
  go_wp2
  refine wp_loop_rounds 1 ?_
  rw [rounds_succ]
  go_wp2
  go_end0
  exact ⟨rfl, rfl⟩
theorem stable_nil (a : Option Addr) (cp : Nat) (fv : Value) (w : World) : Calls Tryz.prog 124 #[.slice a 0 cp, .int .i64 0, fv] w fun e w' => e = .returned (.tuple #[]) ∧ w' = w := by
  have HI := hid (ins_nil a cp fv w)
  go_enter Tryz.func124, Tryz.ntmps124
  go_wp2
  refine wp_loop_rounds 1 ?_
  rw [rounds_succ]
  go_wp2_with fail
  refine HI.out.mono ?_
  rintro _ w1 ⟨rfl, hw⟩
  obtain rfl := hw.symm
  clear hw
  go_wp2
  refine wp_loop_rounds 1 ?_
  rw [rounds_succ]
  go_wp2
  go_end0
  exact ⟨rfl, rfl⟩
theorem sortf_nil (a : Option Addr) (cp : Nat) (fv : Value) (w : World) : Calls Tryz.prog 118 #[.slice a 0 cp, fv] w fun e w' => e = .returned (.tuple #[]) ∧ w' = w := by
  have HI := hid (stable_nil a cp fv w)
  go_enter Tryz.func118, Tryz.ntmps118
  go_wp2_with fail
  refine HI.out.mono ?_
  rintro _ w1 ⟨rfl, hw⟩
  obtain rfl := hw.symm
  clear hw
  go_wp2
  go_end0
  exact ⟨rfl, rfl⟩

theorem Tryz.info3' : (Tryz.prog.info? 3).map (fun i => (i.zero, i.size, i.bytes)) = some (some (.int .i64 0), 1, 8) := by kernel_rfl

set_option maxHeartbeats 1600000 in
set_option maxRecDepth 100000 in
theorem byCount_word (a : Option Addr) (cap : Nat) (cs : List Int) (w : World) (hr : Ri w .i64 a cap cs) (hn : cs.length ≤ 100000) (hm : (nz cs cs.length).length ≤ mostS) :
    Calls Tryz.prog 112 #[.slice a cs.length cap] w fun e w' => ∃ v, e = .returned v ∧ w'.ownsRow w.heap.size 3 1 v (srt cs).length ((srt cs).map (Value.int .i64)) ∧ Below w.heap.size w w' := by
  obtain ⟨i0, hi, hz0, hz1, hz2⟩ := info_parts Tryz.info3'
  have HR := hid hr
  obtain ⟨len, hl⟩ : ∃ n, n = cs.length := ⟨_, rfl⟩
  have HL := hid hl
  rw [← hl] at hn hm ⊢
  have HM := hid hm
  have hbA := bel_alloc w (.cells #[.slice a len cap] 51)
  have eA := World.cell?_alloc_mark w #[.slice a len cap] 51 (0, 0) 0
  have sA : (w.alloc (.cells #[.slice a len cap] 51)).heap.size = w.heap.size + 1 := by simp
  have HBA := hid hbA
  have HSA := hid sA
  have cA : (w.alloc (.cells #[.slice a len cap] 51)).cell? ⟨w.heap.size, 0, none⟩ = some (.slice a len cap) := by simp
  have HCA := hid cA
  clear hr hl hm hbA sA eA cA
  go_enter Tryz.func112, Tryz.ntmps112
  go_wp2_with fail
  generalize w.alloc (.cells #[.slice a len cap] 51) = wA at *
  go_loopw [3, 8] (fun v y wr => ∃ k : Nat, k ≤ len ∧ y = .int .i64 k ∧ wr.ownsRow (w.heap.size + 1) 3 1 v (nz cs k).length ((nz cs k).map (Value.int .i64)) ∧ Below (w.heap.size + 1) wA wr) (fun _ y _ => len - (intOf y).toNat)
  case atStart => exact ⟨0, by omega, rfl, World.ownsRow_nil _ _ _ _, Below.refl _ _⟩
  case round =>
    obtain ⟨k, hk, rfl, hown, hbel⟩ := hrel
    have hsz : w.heap.size + 1 ≤ wr.heap.size := by rw [← HSA.out]; exact hbel.size
    by_cases hlt : k < len
    · have hkl : (k : Int) < (len : Int) := by omega
      have K1 : Hid (k < cs.length) := by show _ < _; rw [← HL.out]; exact hlt
      obtain ⟨b, off, rfl, hbw, hc⟩ := (HR.out).cells (by rw [← HL.out]; omega)
      have ck : wr.cell? ⟨b, off + k, none⟩ = some (.int .i64 (cs.getD k 0)) := ((hbel.cell (p := ⟨b, off + k, none⟩) (by show b < _; omega)).trans (HBA.out.cell (p := ⟨b, off + k, none⟩) hbw)).trans (hc k K1.out)
      clear hc
      have HNZ := hid (show nz cs (k + 1) = if 0 < cs.getD k 0 then nz cs k ++ [(k : Int)] else nz cs k from rfl)
      have hnl := nz_len cs k
      generalize cs.getD k 0 = c at *
      by_cases hc0 : 0 < c
      · have HN2 : Hid (nz cs (k + 1) = nz cs k ++ [(k : Int)]) := by show _ = _; rw [HNZ.out, if_pos hc0]
        go_wp2_with (at_builtin; refine wpList_append_own _ rfl _ _ 51 rfl (w.heap.size + 1) 3 i0 (.int .i64 0) 1 8 Tryz.underlying51 hi hz0 hz1 hz2 rfl (by decide) _ _ _ rfl (hown.alloc _) ⟨wr.heap.size, 0, none⟩ 1 1 [.int .i64 (k : Int)] rfl rfl ?c1 ?c2 ?c3 ?c4 ?c5 ?_)
        case c1 =>
          intro j u hj
          match j, hj with
          | 0, hj => simp at hj; subst hj; simp [Addr.add]
        case c2 => intro u hu; simp at hu; subst hu; rfl
        case c3 => unfold maxLen; omega
        case c4 => omega
        case c5 => simp; omega
        intro v1 w1 hown0 hgrow _
        have HB1 := hid ((hbel.alloc hsz _).grown hgrow (by simp; omega) (fun j hj => (hown.lt j hj).1))
        have HO1 : Hid (w1.ownsRow (w.heap.size + 1) 3 1 v1 (nz cs (k + 1)).length ((nz cs (k + 1)).map (Value.int .i64))) := by
          show World.ownsRow _ _ _ _ _ _ _
          rw [HN2.out]; simpa using hown0
        clear hown hown0 hgrow hbel ck
        go_wp2
        exact ⟨⟨k + 1, by omega, by go_num, HO1.out, HB1.out⟩, by simp [intOf]; omega⟩
      · have HN2 : Hid (nz cs (k + 1) = nz cs k) := by show _ = _; rw [HNZ.out, if_neg hc0]
        go_wp2
        exact ⟨⟨k + 1, by omega, by go_num, by rw [HN2.out]; exact hown, hbel⟩, by simp [intOf]; omega⟩
    · obtain rfl : k = len := by omega
      have hboxr : wr.cell? ⟨w.heap.size, 0, none⟩ = some (.slice a k cap) := (hbel.cell (p := ⟨w.heap.size, 0, none⟩) (by show w.heap.size < _; omega)).trans HCA.out
      have HBW := hid (HBA.out.trans (hbel.mono (by omega)))
      by_cases h0 : 0 < (nz cs k).length
      · obtain ⟨gs, cp, rfl, hgs, hcp⟩ := own_some hown h0
        have hlen0 : 0 < k := by have := nz_len cs k; omega
        obtain ⟨b, off, rfl, hbw, hc⟩ := (HR.out).cells (by rw [← HL.out]; omega)
        have hcts : Cts wr w.heap.size gs b off cap cs := by
          refine ⟨by rw [← HL.out]; exact hboxr, fun j hj => (HBW.out.cell (p := ⟨b, off + j, none⟩) hbw).trans (hc j hj), by rw [← HL.out]; omega, by omega, by omega⟩
        have HS := hid (sortf_word (nz cs k).length cp (w.heap.size + 1) w.heap.size gs b off cap cs (nz cs k) wr hcts HM.out rfl hown hcp (fun u hu => by have := nz_mem cs k u hu; rw [← HL.out]; omega) (getD_inc (nz_inc cs k)))
        have hlt2 := (hown.lt gs rfl).2
        rw [HL.out] at HS
        have HKL := hid HL.out
        clear hown hbel hc hcts
        rw [show nz cs k = nz cs cs.length from by rw [← HL.out]]
        go_wp2_with fail
        refine HS.out.mono ?_
        rintro _ w1 ⟨rfl, ⟨X, hX, hwX⟩, hg⟩
        have hXe := srt_eq hX
        subst hXe
        rw [← srt_len] at hwX
        have HO := hid (own_low hwX (show w.heap.size ≤ w.heap.size + 1 from by omega))
        have HB : Hid (Below w.heap.size w w1) := HBW.out.grown hg HBW.out.size (fun j hj => by injection hj with hj; omega)
        rw [← srt_len]
        clear hX hwX hg
        go_wp2
        go_ret
        exact ⟨_, rfl, HO.out, HB.out⟩
      · have hnil : nz cs k = [] := List.length_eq_zero_iff.1 (by omega)
        obtain ⟨a3, cp3, rfl⟩ : ∃ a3 cp3, u3 = .slice a3 0 cp3 := by
          rcases hown.2 with ⟨h1, _⟩ | ⟨g, cp, _, h1, _⟩
          · exact ⟨none, 0, h1⟩
          · exact ⟨_, cp, by rw [h1, hnil]; rfl⟩
        have hs0 : srt cs = [] := by
          have := srt_len cs
          rw [← HL.out, hnil] at this
          exact List.length_eq_zero_iff.1 this
        rw [hnil] at hown
        have HO := hid (own_low hown (show w.heap.size ≤ w.heap.size + 1 from by omega))
        have HSN := hid (fun W => sortf_nil a3 cp3 (.func (.func 119) #[] #[.pointer (some ⟨w.heap.size, 0, none⟩)]) W)
        have HE := hid hs0
        clear hown hbel hnil hs0 h0
        go_wp2_with fail
        refine (HSN.out _).mono ?_
        rintro _ w1 ⟨rfl, hw⟩
        obtain rfl := hw.symm
        clear hw
        go_wp2
        go_ret
        exact ⟨_, rfl, by rw [HE.out]; exact HO.out, HBW.out⟩
end Go.Proofs.YtelnefngkdfcoaaGreat
/-
  The contract of the closure that takes the least node.
-/
namespace Go.Proofs.YtelnefngkdfcoaaGreat
open Go.RowKit Hf

structure TM (w wr : World) (gy gN gl gp gr capN n : Nat) (vy : Value) (s : TS) : Prop where
  sy : wr.heap[gy]? = some (.cells #[vy] 51 (0, 0))
  nd : wr.heap[gN]? = some (.cells #[.slice (some ⟨gr, 0, none⟩) s.N.length capN] 177 (0, 0))
  lf : wr.heap[gl]? = some (.cells #[.int .i64 (s.l : Int)] 3 (0, 0))
  pr : wr.heap[gp]? = some (.cells #[.int .i64 (s.p : Int)] 3 (0, 0))
  row : wr.ownsRow w.heap.size 180 2 (.slice (some ⟨gr, 0, none⟩) s.N.length capN) s.N.length ((flatN s.N).map (Value.int .i64))
  ne : gl ≠ gp
  by' : w.heap.size ≤ gy
  bN : w.heap.size ≤ gN
  bl : w.heap.size ≤ gl
  bp : w.heap.size ≤ gp
  bel : Below w.heap.size w wr

theorem TM.wtCell {w wr : World} {gy gN gl gp gr capN n : Nat} {vy : Value} {s : TS} (h : TM w wr gy gN gl gp gr capN n vy s) (i : Nat) (hi : i < s.N.length) : wr.cell? ⟨gr, i * 2, none⟩ = some (.int .i64 (wt s.N i)) := by
  rw [Nat.mul_comm i 2, h.row.cellAt (2 * i) (by omega), List.getElem?_map, ← flatN_wt]
  have hl := flatN_length s.N
  simp [List.getD, List.getElem?_eq_getElem (show 2 * i < (flatN s.N).length from by omega)]
theorem TM.rowBlk {w wr : World} {gy gN gl gp gr capN n : Nat} {vy : Value} {s : TS} (h : TM w wr gy gN gl gp gr capN n vy s) : ∃ cur, wr.heap[gr]? = some (.cells cur 180 (0, 0)) := by
  rcases h.row.2 with ⟨hv, _⟩ | ⟨g, cap, cur, hv, hb, hg, _⟩
  · cases hv
  · injection hv with hv
    injection hv with hv
    injection hv with hv _
    subst hv
    exact ⟨cur, hg⟩
theorem ne_of_type {wr : World} {a b : Nat} {c1 c2 : Array Value} {t1 t2 : TypeId} {m1 m2 : Nat × Nat} (h1 : wr.heap[a]? = some (.cells c1 t1 m1)) (h2 : wr.heap[b]? = some (.cells c2 t2 m2)) (ht : t1 ≠ t2) : a ≠ b := by
  intro e; subst e
  rw [h1] at h2
  injection h2 with h2
  injection h2 with _ h3 _
  exact ht h3
theorem TM.drew {w wr : World} {gy gN gl gp gr capN n : Nat} {vy : Value} {s : TS} (h : TM w wr gy gN gl gp gr capN n vy s) : TM w wr.drew gy gN gl gp gr capN n vy s :=
  ⟨h.sy, h.nd, h.lf, h.pr, h.row, h.ne, h.by', h.bN, h.bl, h.bp, h.bel.drew⟩
theorem TM.setL {w wr : World} {gy gN gl gp gr capN n : Nat} {vy : Value} {s : TS} (h : TM w wr gy gN gl gp gr capN n vy s) (x : Nat) : TM w (wr.setCell ⟨gl, 0, none⟩ (.int .i64 (x : Int))) gy gN gl gp gr capN n vy ⟨s.N, x, s.p⟩ := by
  obtain ⟨cur, hcur⟩ := h.rowBlk
  have n1 : gy ≠ gl := ne_of_type h.sy h.lf (by decide)
  have n2 : gN ≠ gl := ne_of_type h.nd h.lf (by decide)
  have n3 : gr ≠ gl := ne_of_type hcur h.lf (by decide)
  refine ⟨by rw [heap_put_other h.lf n1]; exact h.sy, by rw [heap_put_other h.lf n2]; exact h.nd, by rw [Joins.block_setCell h.lf]; rfl, by rw [heap_put_other h.lf (Ne.symm h.ne)]; exact h.pr, ?_, h.ne, h.by', h.bN, h.bl, h.bp, h.bel.setCell (show w.heap.size ≤ (Addr.mk gl 0 none).block from h.bl) _⟩
  exact ownsRow_setCell_other h.row (by simp [Value.ownBlock]; exact n3) _
theorem TM.setP {w wr : World} {gy gN gl gp gr capN n : Nat} {vy : Value} {s : TS} (h : TM w wr gy gN gl gp gr capN n vy s) (x : Nat) : TM w (wr.setCell ⟨gp, 0, none⟩ (.int .i64 (x : Int))) gy gN gl gp gr capN n vy ⟨s.N, s.l, x⟩ := by
  obtain ⟨cur, hcur⟩ := h.rowBlk
  have n1 : gy ≠ gp := ne_of_type h.sy h.pr (by decide)
  have n2 : gN ≠ gp := ne_of_type h.nd h.pr (by decide)
  have n3 : gr ≠ gp := ne_of_type hcur h.pr (by decide)
  refine ⟨by rw [heap_put_other h.pr n1]; exact h.sy, by rw [heap_put_other h.pr n2]; exact h.nd, by rw [heap_put_other h.pr h.ne]; exact h.lf, by rw [Joins.block_setCell h.pr]; rfl, ?_, h.ne, h.by', h.bN, h.bl, h.bp, h.bel.setCell (show w.heap.size ≤ (Addr.mk gp 0 none).block from h.bp) _⟩
  exact ownsRow_setCell_other h.row (by simp [Value.ownBlock]; exact n3) _

set_option maxHeartbeats 1600000 in
set_option maxRecDepth 100000 in
theorem take_word (gy gN gl gp gr capN n : Nat) (ay : Option Addr) (cy : Nat) (s : TS) (w wr : World) (h : TM w wr gy gN gl gp gr capN n (.slice ay n cy) s) (hn : n ≤ 100000) (hlen : s.N.length ≤ 200000) (ln : s.l ≤ n) (np : n ≤ s.p) (pl : s.p ≤ s.N.length) (hfree : 0 < (n - s.l) + (s.N.length - s.p)) :
    Calls Tryz.prog 121 #[.pointer (some ⟨gp, 0, none⟩), .pointer (some ⟨gN, 0, none⟩), .pointer (some ⟨gl, 0, none⟩), .pointer (some ⟨gy, 0, none⟩)] wr fun e w' => e = .returned (.int .i64 ((takeA n s.N s.l s.p : Nat) : Int)) ∧ TM w w' gy gN gl gp gr capN n (.slice ay n cy) ⟨s.N, takeL n s.N s.l s.p, takeP n s.N s.l s.p⟩ := by
  have c1 : wr.cell? ⟨gp, 0, none⟩ = some (.int .i64 (s.p : Int)) := by have := Joins.cell_of_block h.pr 0; simpa using this
  have c2 : wr.cell? ⟨gN, 0, none⟩ = some (.slice (some ⟨gr, 0, none⟩) s.N.length capN) := by have := Joins.cell_of_block h.nd 0; simpa using this
  have c3 : wr.cell? ⟨gl, 0, none⟩ = some (.int .i64 (s.l : Int)) := by have := Joins.cell_of_block h.lf 0; simpa using this
  have c4 : wr.cell? ⟨gy, 0, none⟩ = some (.slice ay n cy) := by have := Joins.cell_of_block h.sy 0; simpa using this
  have f1 := Joins.unfrozen_of_block h.pr 0
  have f3 := Joins.unfrozen_of_block h.lf 0
  have hro := h.row.1
  by_cases hp : s.p = s.N.length
  · have hu : useLeaf n s.N s.l s.p = true := by unfold useLeaf; rw [hp]; simp
    have hll : s.l < n := by omega
    unfold takeA takeL takeP
    rw [hu]
    simp only [if_true]
    have HT := hid (h.drew.setL (s.l + 1))
    clear h hu hro
    rw [hp] at c1
    generalize s.N.length = len at *
    have hb : ((len : Int) == (len : Int)) = true := by simp
    generalize s.l = l at *
    clear hp
    go_enter Tryz.func121, Tryz.ntmps121
    go_wp2_with fail
    go_region
    have d1 : wr.drew.cell? ⟨gp, 0, none⟩ = some (.int .i64 (len : Int)) := c1
    have d3 : wr.drew.cell? ⟨gl, 0, none⟩ = some (.int .i64 (l : Int)) := c3
    have g1 : wr.drew.frozen? ⟨gp, 0, none⟩ = false := f1
    have g3 : wr.drew.frozen? ⟨gl, 0, none⟩ = false := f3
    clear c1 c2 c3 c4 f1 f3
    generalize wr.drew = W at *
    go_wp2
    go_ret
    exact ⟨rfl, HT.out⟩
  · have hpl : s.p < s.N.length := by omega
    have hpb : ((s.p : Int) == (s.N.length : Int)) = false := by simp; omega
    have w2 := h.wtCell s.p hpl
    by_cases hll : s.l < n
    · have w1 := h.wtCell s.l (by omega)
      have hlN : s.l < s.N.length := by omega
      by_cases hw : wt s.N s.l ≤ wt s.N s.p
      · have hu : useLeaf n s.N s.l s.p = true := by unfold useLeaf; simp [hll, hw]
        unfold takeA takeL takeP
        rw [hu]
        simp only [if_true]
        have HT := hid (h.drew.setL (s.l + 1))
        clear h hu hro hp
        generalize wt s.N s.l = x at *
        generalize wt s.N s.p = y at *
        generalize s.N.length = len at *
        generalize s.l = l at *
        generalize s.p = pp at *
        have hz1 : (l : Int) < (len : Int) := by omega
        have hz2 : (pp : Int) < (len : Int) := by omega
        have hz3 : (l : Int) < (n : Int) := by omega
        go_enter Tryz.func121, Tryz.ntmps121
        go_wp2_with fail
        go_region
        have d1 : wr.drew.cell? ⟨gp, 0, none⟩ = some (.int .i64 (pp : Int)) := c1
        have d3 : wr.drew.cell? ⟨gl, 0, none⟩ = some (.int .i64 (l : Int)) := c3
        have g1 : wr.drew.frozen? ⟨gp, 0, none⟩ = false := f1
        have g3 : wr.drew.frozen? ⟨gl, 0, none⟩ = false := f3
        clear c1 c2 c3 c4 f1 f3 w1 w2
        generalize wr.drew = W at *
        go_wp2
        go_ret
        exact ⟨rfl, HT.out⟩
      · have hu : useLeaf n s.N s.l s.p = false := by
          unfold useLeaf
          rw [decide_eq_false hw, Bool.and_false, Bool.or_false]
          simpa using hp
        unfold takeA takeL takeP
        rw [hu]
        simp only [Bool.false_eq_true, if_false]
        have HT := hid (h.drew.setP (s.p + 1))
        clear h hu hro hp
        generalize wt s.N s.l = x at *
        generalize wt s.N s.p = y at *
        generalize s.N.length = len at *
        generalize s.l = l at *
        generalize s.p = pp at *
        have hz1 : (l : Int) < (len : Int) := by omega
        have hz2 : (pp : Int) < (len : Int) := by omega
        have hz3 : (l : Int) < (n : Int) := by omega
        go_enter Tryz.func121, Tryz.ntmps121
        go_wp2_with fail
        go_region
        have d1 : wr.drew.cell? ⟨gp, 0, none⟩ = some (.int .i64 (pp : Int)) := c1
        have d3 : wr.drew.cell? ⟨gl, 0, none⟩ = some (.int .i64 (l : Int)) := c3
        have g1 : wr.drew.frozen? ⟨gp, 0, none⟩ = false := f1
        have g3 : wr.drew.frozen? ⟨gl, 0, none⟩ = false := f3
        clear c1 c2 c3 c4 f1 f3 w1 w2
        generalize wr.drew = W at *
        go_wp2
        go_ret
        exact ⟨rfl, HT.out⟩
    · have hu : useLeaf n s.N s.l s.p = false := by
        unfold useLeaf
        rw [decide_eq_false hll, Bool.false_and, Bool.or_false]
        simpa using hp
      unfold takeA takeL takeP
      rw [hu]
      simp only [Bool.false_eq_true, if_false]
      have HT := hid (h.drew.setP (s.p + 1))
      clear h hu hro hp
      generalize wt s.N s.p = y at *
      generalize s.N.length = len at *
      generalize s.l = l at *
      generalize s.p = pp at *
      have hz2 : (pp : Int) < (len : Int) := by omega
      have hz3 : ¬ (l : Int) < (n : Int) := by omega
      go_enter Tryz.func121, Tryz.ntmps121
      go_wp2_with fail
      go_region
      have d1 : wr.drew.cell? ⟨gp, 0, none⟩ = some (.int .i64 (pp : Int)) := c1
      have d3 : wr.drew.cell? ⟨gl, 0, none⟩ = some (.int .i64 (l : Int)) := c3
      have g1 : wr.drew.frozen? ⟨gp, 0, none⟩ = false := f1
      have g3 : wr.drew.frozen? ⟨gl, 0, none⟩ = false := f3
      clear c1 c2 c3 c4 f1 f3 w2
      generalize wr.drew = W at *
      go_wp2
      go_ret
      exact ⟨rfl, HT.out⟩
end Go.Proofs.YtelnefngkdfcoaaGreat
