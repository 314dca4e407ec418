/-
  The contract of slices.Concat at two rows of bytes, and of bytes.Clone.
-/
import Derived.Test.YtgnjicpmfpgdeaaDoorShGrowB
import Derived.Lib.SliceRun
namespace Go.Proofs.YtgnjicpmfpgdeaaDoor.Sh
open Go.RowKit Sha

theorem own_lit0 (w : World) : (w.alloc (.cells #[] 5)).ownsRow w.heap.size 5 1 (.slice (some ⟨w.heap.size, 0, none⟩) 0 0) 0 (V []) :=
  World.ownsRow_lit (base := w.heap.size) (e := 5) (size := 1) w #[] 0 (Nat.le_refl _) (by unfold maxLen; omega) rfl

set_option maxHeartbeats 3200000 in
set_option maxRecDepth 100000 in
theorem concat_two (g : Nat) (a1 a2 : Option Addr) (c1 c2 : Nat) (l1 l2 : List Nat) (w : World) (hg : g < w.heap.size)
    (e0 : w.cell? ⟨g, 0, none⟩ = some (.slice a1 l1.length c1)) (e1 : w.cell? ⟨g, 1, none⟩ = some (.slice a2 l2.length c2)) (r1 : Rd w (.slice a1 l1.length c1) a1 c1 l1) (r2 : Rd w (.slice a2 l2.length c2) a2 c2 l2) (hs : l1.length + l2.length ≤ 900000) :
    Calls Tryd.prog 37 #[.slice (some ⟨g, 0, none⟩) 2 2] w fun e w' => ∃ v, e = .returned v ∧ w'.ownsRow w.heap.size 5 1 v (l1 ++ l2).length (V (l1 ++ l2)) ∧ Below w.heap.size w w' := by
  have HG := hid (fun W : World => grow_bytes (l1.length + l2.length) W (by omega))
  have HR1 := hid r1
  have HR2 := hid r2
  clear r1 r2
  go_enter Tryd.func37, Tryd.ntmps37
  go_wp2_with fail
  go_loopw [3, 11] (fun s i wr => wr = w ∧ ((i = .int .i64 0 ∧ s = .int .i64 0) ∨ (i = .int .i64 1 ∧ s = .int .i64 (l1.length : Int)) ∨ (i = .int .i64 2 ∧ s = .int .i64 ((l1.length : Int) + (l2.length : Int))))) (fun _ i _ => 2 - (intOf i).toNat)
  case atStart => exact ⟨rfl, Or.inl ⟨rfl, rfl⟩⟩
  case round =>
    obtain ⟨hw, hrel⟩ := hrel
    obtain rfl := hw.symm
    clear hw
    rcases hrel with ⟨rfl, rfl⟩ | ⟨rfl, rfl⟩ | ⟨rfl, rfl⟩
    · have hp : ¬ ((l1.length : Int) < 0) := by omega
      go_wp2
      exact ⟨⟨by trivial, Or.inr (Or.inl ⟨by go_num, by go_num⟩)⟩, by decide⟩
    · have hp : ¬ ((l1.length : Int) + (l2.length : Int) < 0) := by omega
      go_wp2
      exact ⟨⟨by trivial, Or.inr (Or.inr ⟨by go_num, by go_num⟩)⟩, by decide⟩
    · go_wp2_with fail
      go_at_call 61
      rw [show (l1.length : Int) + (l2.length : Int) = ((l1.length + l2.length : Nat) : Int) from by omega]
      refine (HG.out w).mono ?_
      rintro _ w1 ⟨v, rfl, hown, hb1⟩
      go_wp2_with fail
      go_loopw [6, 27] (fun v i wq => Below w.heap.size w wq ∧ ((i = .int .i64 0 ∧ wq.ownsRow w.heap.size 5 1 v ([] : List Nat).length (V [])) ∨ (i = .int .i64 1 ∧ wq.ownsRow w.heap.size 5 1 v l1.length (V l1)) ∨ (i = .int .i64 2 ∧ wq.ownsRow w.heap.size 5 1 v (l1 ++ l2).length (V (l1 ++ l2))))) (fun _ i _ => 2 - (intOf i).toNat)
      case atStart => exact ⟨hb1, Or.inl ⟨rfl, hown⟩⟩
      case round =>
        obtain ⟨hbq, hrel⟩ := hrel
        have hzq := hbq.size
        have f0 := (hbq.cell (p := ⟨g, 0, none⟩) hg).trans e0
        have f1 := (hbq.cell (p := ⟨g, 1, none⟩) hg).trans e1
        have hr1 := HR1.out.later hbq
        have hr2 := HR2.out.later hbq
        rcases hrel with ⟨rfl, ho⟩ | ⟨rfl, ho⟩ | ⟨rfl, ho⟩
        · have hq3 : ([] : List Nat).length + l1.length ≤ 1000000 := by simp; omega
          go_wp2_with (at_builtin; refine app_any _ rfl _ _ rfl w.heap.size _ [] rfl ho a1 c1 l1 rfl hr1 hq3 hzq ?_)
          intro v' w2 hown' hgrow
          have hb2 := hbq.grown hgrow (by omega) (fun j hj => (ho.lt j hj).1)
          clear hgrow ho
          go_wp2
          exact ⟨⟨hb2, Or.inr (Or.inl ⟨by go_num, hown'⟩)⟩, by decide⟩
        · have hq3 : l1.length + l2.length ≤ 1000000 := by omega
          go_wp2_with (at_builtin; refine app_any _ rfl _ _ rfl w.heap.size _ l1 rfl ho a2 c2 l2 rfl hr2 hq3 hzq ?_)
          intro v' w2 hown' hgrow
          have hb2 := hbq.grown hgrow (by omega) (fun j hj => (ho.lt j hj).1)
          have R : w2.ownsRow w.heap.size 5 1 v' (l1 ++ l2).length (V (l1 ++ l2)) := by
            rw [List.length_append]; exact hown'
          clear hgrow ho hown'
          go_wp2
          exact ⟨⟨hb2, Or.inr (Or.inr ⟨by go_num, R⟩)⟩, by decide⟩
        · go_wp2
          go_ret
          exact ⟨_, rfl, ho, hbq⟩

set_option maxRecDepth 100000 in
theorem clone_some (ad : Addr) (c : Nat) (l : List Nat) (w : World) (hr : Rd w (.slice (some ad) l.length c) (some ad) c l) (hs : l.length ≤ 900000) :
    Calls Tryd.prog 50 #[.slice (some ad) l.length c] w fun e w' => ∃ v, e = .returned v ∧ w'.ownsRow w.heap.size 5 1 v l.length (V l) ∧ Below w.heap.size w w' := by
  have q22 : ∀ (w : World) (a : Option Addr) (n c n' c' : Nat), (binOp .eql 22 (.slice a n c) (.slice none n' c')).run Tryd.prog w = .ok (.bool a.isNone) w := fun w a n c n' c' => Lib.run_eql_slice_nil w _ _ a n c n' c' Tryd.underlying22
  have hown := own_lit0 w
  have hb1 := bel_alloc w (.cells #[] 5)
  have s1 : (w.alloc (.cells #[] 5)).heap.size = w.heap.size + 1 := by simp
  have hr1 := hr.later hb1
  have hq3 : ([] : List Nat).length + l.length ≤ 1000000 := by simp; omega
  clear hr
  go_enter Tryd.func50, Tryd.ntmps50
  go_wp2_with (at_builtin; refine app_any _ rfl _ _ rfl w.heap.size _ [] rfl hown (some ad) c l rfl hr1 hq3 (by omega) ?_)
  intro v2 w2 hown2 hgrow2
  have hb2 : Below w.heap.size w w2 := hb1.grown hgrow2 (by omega) (fun j hj => (hown.lt j hj).1)
  clear hown hgrow2 hr1
  go_wp2
  go_ret
  exact ⟨_, rfl, hown2, hb2⟩

end Go.Proofs.YtgnjicpmfpgdeaaDoor.Sh
