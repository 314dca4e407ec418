/-
  A number of eight bytes: word.Word, the reader's long.
-/
import Derived.Test.YtgnjicpmfpgdeaaDoorFrC
namespace Go.Proofs.YtgnjicpmfpgdeaaDoor
open Go.ChangeShapes Go.WideShapes Go.ChangeAt Go.RowKit Go.Deep Go.Lib

set_option maxRecDepth 100000 in
theorem slice_8 (a : Option Addr) (len cap : Nat) (h : 8 ≤ cap) (W : World) : (Instr.slice 22 (.slice a len cap) none (some (.int .i64 8)) none).run Tryd.prog W = .ok (.slice a 8 cap) W := by
  have := run_slice_h (P := Tryd.prog) W 22 a len cap Tryd.underlying22 .i64 8 (by omega) (by omega)
  rw [this]
  have hs : (sizeOf (Tryd.prog.elem 22)).run Tryd.prog W = .ok 1 W := by kernel_rfl
  rw [hs]
  show Result.ok (sliced a 0 8 cap 1) W = _
  unfold sliced
  cases a with
  | none => simp
  | some ad => cases hcz : decide (cap = 0) <;> simp [Addr.add]
/-- Eight bytes as a number. -/
def N8 (zs : List Int) : Int := Sh.Wd.numF 1 zs
theorem N8_B8 (x : Int) (h0 : 0 ≤ x) (h1 : x < 18446744073709551616) : N8 (B8 x) = x := by
  unfold N8 B8
  rw [Sh.Wd.numF_bytesF]
  exact Int.emod_eq_of_lt h0 (by simpa using h1)
theorem Ri.rdW {w : World} {a : Option Addr} {cap : Nat} {zs : List Int} (h : Ri w .u8 a cap zs) : Sh.Wd.Rd w (.slice a zs.length cap) a cap zs :=
  ⟨rfl, h.room, h.most, h.cells, fun j => (wf_u8 (h.fits j)).1, fun j => (wf_u8 (h.fits j)).2⟩
set_option maxHeartbeats 3200000 in
set_option maxRecDepth 100000 in
theorem word8_word (a : Option Addr) (c : Nat) (zs : List Int) (w : World) (h : Ri w .u8 a c zs) (hl : zs.length = 8) :
    Calls Tryd.prog 81 #[.slice a 8 c, .int .i64 64, .int .i64 1] w fun e w' => e = .returned (.tuple #[.int .u64 (N8 zs), .int .i64 0]) ∧ ∃ m, w' = w.drewN m := by
  have hroom := h.room
  rw [hl] at hroom
  have HF := hid (fun V => Sh.Wd.fault_any 64 1 V)
  have HS := hid (fun V => Sh.Wd.size_any 64 V)
  change Hid (∀ V, Calls Tryd.prog 72 #[.int .i64 64, .int .i64 1] V fun e w' => e = .returned (.int .i64 0) ∧ w' = V) at HF
  change Hid (∀ V, Calls Tryd.prog 73 #[.int .i64 64] V fun e w' => e = .returned (.int .i64 8) ∧ w' = V) at HS
  have hnum := Sh.Wd.number_any a c zs 1 w h.rdW (by omega)
  rw [hl] at hnum
  have HN : Hid (Calls Tryd.prog 91 #[.slice a 8 c, .int .i64 1] w fun e w' => e = .returned (.int .u64 (N8 zs)) ∧ ∃ m, w' = w.drewN m) := hnum
  have hsl := fun W => slice_8 a 8 c hroom W
  clear hnum h hl
  go_enter Tryd.func81, Tryd.ntmps81
  go_wp2_with fail
  refine (HF.out _).mono ?_
  rintro _ w0 ⟨rfl, hw⟩
  obtain rfl := hw.symm
  clear hw
  go_wp2_with fail
  refine (HS.out _).mono ?_
  rintro _ w0 ⟨rfl, hw⟩
  obtain rfl := hw.symm
  clear hw
  go_wp2_with fail
  refine HN.out.mono ?_
  rintro _ w1 ⟨rfl, m, rfl⟩
  go_wp2
  go_ret2
  exact ⟨rfl, m, rfl⟩
/-- What the reader's long takes. -/
def longO (zs : List Int) : Option (Int × List Int) := if 8 ≤ zs.length then some (N8 (zs.take 8), zs.drop 8) else none
theorem But1.drewN {g : Nat} {w w' : World} (h : But1 g w w') (m : Nat) : But1 g w (w'.drewN m) := ⟨bel_drewN h.bel m, fun i hi hn => h.same i hi hn⟩
set_option maxHeartbeats 3200000 in
set_option maxRecDepth 100000 in
theorem rlong_some (w0 w : World) (g : Nat) (a : Option Addr) (cap : Nat) (zs : List Int) (h : Rd w0 w g a cap zs) (x : Int) (rs : List Int) (hx : longO zs = some (x, rs)) :
    Calls Tryd.prog 65 #[.pointer (some ⟨g, 0, none⟩)] w fun e w' => e = .returned (.int .u64 x) ∧ ∃ a' c', Rd w0 w' g a' c' rs ∧ But1 g w w' := by
  unfold longO at hx
  split at hx
  · rename_i h8
    injection hx with hx
    injection hx with hx1 hx2
    have HT := hid (take_some w0 w g a cap zs 8 h h8)
    have HX1 := hid hx1
    have HX2 := hid hx2
    have HL : Hid ((zs.take 8).length = 8) := by show _ = _; rw [List.length_take]; omega
    clear hx1 hx2 h h8
    rw [HL.out] at HT
    go_enter Tryd.func65, Tryd.ntmps65
    go_wp2_with fail
    refine HT.out.mono ?_
    rintro _ w1 ⟨a1, rfl, hr1, a2, c2, hd, hb⟩
    have HW8 := hid (word8_word a1 8 (zs.take 8) w1 (hr1.later hd.bel) HL.out)
    have HD := hid hd
    have HB := hid hb
    clear hr1 hd hb HT
    rw [HX1.out] at HW8
    rw [HX2.out] at HD
    go_wp2_with fail
    refine HW8.out.mono ?_
    rintro _ w2 ⟨rfl, m, rfl⟩
    have HD2 := hid (HD.out.later (bel_drewN (Below.refl _ _) m))
    have HB2 := hid (HB.out.drewN m)
    go_wp2
    go_ret
    exact ⟨rfl, a2, c2, HD2.out, HB2.out⟩
  · cases hx
set_option maxHeartbeats 3200000 in
set_option maxRecDepth 100000 in
theorem rlong_none (w0 w : World) (g : Nat) (a : Option Addr) (cap : Nat) (zs : List Int) (h : Rd w0 w g a cap zs) (hx : longO zs = none) :
    Calls Tryd.prog 65 #[.pointer (some ⟨g, 0, none⟩)] w fun e w' => e = .panicked faultC ∧ w' = w := by
  unfold longO at hx
  split at hx
  · cases hx
  · rename_i h8
    have HT := hid (take_none w0 w g a cap zs 8 h h8)
    clear h h8 hx
    go_enter Tryd.func65, Tryd.ntmps65
    go_wp2_with fail
    refine HT.out.mono ?_
    rintro _ w1 ⟨rfl, hw⟩
    obtain rfl := hw.symm
    exact ⟨rfl, rfl, rfl⟩
end Go.Proofs.YtgnjicpmfpgdeaaDoor
