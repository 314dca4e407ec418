/-
  A row of integers as an argument of type []int, []byte or []uint16: what it reads as, in which worlds.
-/
import Derived.Test.YtcapkkldjgmhfaaRows
import Derived.Laws.BytesArg
import Derived.Laws.BitsAllLaws
import Derived.WalkKit
import Derived.ProofKit
import Derived.OpenShut
import Derived.Deep.QuietTactic
import Derived.BigQuiet
import Derived.RegionTactic
import Derived.OrdersHeld
import Derived.Deep.RegionHeld
namespace Go.Proofs.Ytcapkkldjgmhfaa
open Go.RowKit

theorem hid {p : Prop} (h : p) : Go.RowKit.Hid p := h

/-- The slice at a reads, in the world w, as the numbers zs. -/
structure Ri (w : World) (kd : IntKind) (a : Option Addr) (cap : Nat) (zs : List Int) : Prop where
  room : zs.length ≤ cap
  most : cap ≤ maxLen
  cells : 0 < zs.length → ∃ b off, a = some ⟨b, off, none⟩ ∧ b < w.heap.size ∧ ∀ j, j < zs.length → w.cell? ⟨b, off + j, none⟩ = some (.int kd (zs.getD j 0))
  fits : ∀ j, (Lit.int kd (zs.getD j 0)).wf = true

theorem Ri.later {w w' : World} {kd : IntKind} {a : Option Addr} {cap : Nat} {zs : List Int} (h : Ri w kd a cap zs) (hb : Below w.heap.size w w') : Ri w' kd a cap zs := by
  refine ⟨h.room, h.most, fun h0 => ?_, h.fits⟩
  obtain ⟨b, off, ha, hbw, hc⟩ := h.cells h0
  exact ⟨b, off, ha, Nat.lt_of_lt_of_le hbw hb.size, fun j hj => (hb.cell (p := ⟨b, off + j, none⟩) hbw).trans (hc j hj)⟩

theorem getD_take (zs : List Int) (n j : Nat) (hj : j < n) : (zs.take n).getD j 0 = zs.getD j 0 := by
  simp [List.getD, List.getElem?_take_of_lt hj]
theorem getD_take_out (zs : List Int) (n j : Nat) (hj : ¬ j < n) : (zs.take n).getD j 0 = 0 := by
  have h : (zs.take n).length ≤ j := by simp; omega
  simp [List.getD, List.getElem?_eq_none h]
theorem getD_out (zs : List Int) (j : Nat) (hj : zs.length ≤ j) : zs.getD j 0 = 0 := by
  simp [List.getD, List.getElem?_eq_none hj]

theorem wf_zero (kd : IntKind) : (Lit.int kd 0).wf = true := by cases kd <;> rfl

theorem Ri.take {w : World} {kd : IntKind} {a : Option Addr} {cap : Nat} {zs : List Int} (h : Ri w kd a cap zs) (n : Nat) : Ri w kd a cap (zs.take n) := by
  have hroom := h.room
  have hle : (zs.take n).length ≤ zs.length := by simp; omega
  have hln : (zs.take n).length ≤ n := List.length_take_le _ _
  refine ⟨by omega, h.most, fun h0 => ?_, fun j => ?_⟩
  · obtain ⟨b, off, ha, hbw, hc⟩ := h.cells (by omega)
    refine ⟨b, off, ha, hbw, fun j hj => ?_⟩
    rw [getD_take zs n j (by omega)]
    exact hc j (by omega)
  · by_cases hj : j < n
    · rw [getD_take zs n j hj]; exact h.fits j
    · rw [getD_take_out zs n j hj]; exact wf_zero kd

theorem Bn {w a b : World} (h : Below w.heap.size w a) (h2 : Below a.heap.size a b) : Below w.heap.size w b := h.trans (h2.mono h.size)
theorem bel_drewN {B : Nat} {a w : World} (h : Below B a w) (n : Nat) : Below B a (w.drewN n) := h.trans ⟨rfl, rfl, rfl, Nat.le_refl _, fun _ _ => rfl⟩

theorem Try.laidOut : laidOutB Try.prog = true := by kernel_rfl
theorem Try.cells3 : Try.prog.cellsOf 3 = 1 := by kernel_rfl
theorem Try.cells5 : Try.prog.cellsOf 5 = 1 := by kernel_rfl

theorem wf_u8 {x : Int} (h : (Lit.int .u8 x).wf = true) : 0 ≤ x ∧ x ≤ 255 := by
  have h1 : IntKind.u8.min = 0 := rfl
  have h2 : IntKind.u8.max = 255 := rfl
  simp only [Lit.wf, Bool.and_eq_true, decide_eq_true_eq] at h
  omega
theorem wf_u16 {x : Int} (h : (Lit.int .u16 x).wf = true) : 0 ≤ x ∧ x ≤ 65535 := by
  have h1 : IntKind.u16.min = 0 := rfl
  have h2 : IntKind.u16.max = 65535 := rfl
  simp only [Lit.wf, Bool.and_eq_true, decide_eq_true_eq] at h
  omega
theorem wf_i64 {x : Int} (h : (Lit.int .i64 x).wf = true) : -9223372036854775808 ≤ x ∧ x ≤ 9223372036854775807 := by
  have h1 : IntKind.i64.min = -9223372036854775808 := rfl
  have h2 : IntKind.i64.max = 9223372036854775807 := rfl
  simp only [Lit.wf, Bool.and_eq_true, decide_eq_true_eq] at h
  omega
theorem wf_mk_i64 {x : Int} (h1 : -9223372036854775808 ≤ x) (h2 : x ≤ 9223372036854775807) : (Lit.int .i64 x).wf = true := by
  have e1 : IntKind.i64.min = -9223372036854775808 := rfl
  have e2 : IntKind.i64.max = 9223372036854775807 := rfl
  simp only [Lit.wf, Bool.and_eq_true, decide_eq_true_eq]
  omega
theorem wf_mk_u8 {x : Int} (h1 : 0 ≤ x) (h2 : x ≤ 255) : (Lit.int .u8 x).wf = true := by
  have e1 : IntKind.u8.min = 0 := rfl
  have e2 : IntKind.u8.max = 255 := rfl
  simp only [Lit.wf, Bool.and_eq_true, decide_eq_true_eq]
  omega
theorem wf_mk_u16 {x : Int} (h1 : 0 ≤ x) (h2 : x ≤ 65535) : (Lit.int .u16 x).wf = true := by
  have e1 : IntKind.u16.min = 0 := rfl
  have e2 : IntKind.u16.max = 65535 := rfl
  simp only [Lit.wf, Bool.and_eq_true, decide_eq_true_eq]
  omega

set_option maxRecDepth 100000 in
open Go.ChangeShapes Go.WideShapes Go.ChangeAt in
/-- An argument that is a row of integers, as it is handed in. -/
theorem open_ri {H : Type} {enc : TypeId × Value → H} {W : World} {base : Nat} {t e : TypeId} {kd : IntKind} {v : Value} {d : DataW H} {p : List MemPlace} (ht : Try.prog.underlying t = some (.slice e)) (he : Try.prog.underlying e = some (.int kd)) (hc : Try.prog.cellsOf e = 1)
    (hv : Value.okWide Try.prog W .any base t v) (h : DataW.Trod enc Try.prog W 0 (fun _ => true) true t v d p) (hlt : ∀ x ∈ p, x.block < W.heap.size) :
    ∃ a cap zs, v = .slice a (zs : List Int).length cap ∧ Ri W kd a cap zs := by
  obtain ⟨a0, len, cap, rfl⟩ := okWide_slice ht hv
  obtain ⟨fuel, hf⟩ := h
  rcases open_ints ht he hc hf with ⟨hcs, hx⟩ | ⟨a, len', cap', zs, hcs, _, hl, hm, hz, hx, hcell, hwz⟩
  · simp [Value.cells] at hcs
    obtain ⟨rfl, rfl, rfl⟩ := hcs
    exact ⟨none, 0, [], rfl, Nat.le_refl _, by unfold maxLen; omega, fun h => absurd h (by simp), fun j => by simp; exact wf_zero kd⟩
  · simp [Value.cells] at hcs
    obtain ⟨rfl, rfl, rfl⟩ := hcs
    simp only [Prod.mk.injEq] at hx
    obtain ⟨_, rfl⟩ := hx
    simp only [if_true] at hz
    have hlen : (zs.take len).length = len := by simp; omega
    refine ⟨some a, cap, zs.take len, by rw [hlen], by omega, hm, fun h0 => ?_, fun j => ?_⟩
    · rw [hlen] at h0 ⊢
      obtain ⟨b, off, spot⟩ := a
      have hspot : spot = none := by simpa [Addr.add] using World.cell?_spot (hcell 0 (by omega))
      subst hspot
      have hbW : b < W.heap.size := hlt (.cell b off) (MemPlace.mem_row.2 ⟨0, by omega, by simp⟩)
      refine ⟨b, off, rfl, hbW, fun j hj => ?_⟩
      rw [← add_plain, getD_take zs len j hj]
      exact hcell j (by omega)
    · by_cases hj : j < (zs.take len).length
      · have hm : (zs.take len).getD j 0 ∈ zs := by
          simp only [List.getD, List.getElem?_eq_getElem hj, Option.getD_some]
          exact List.mem_of_mem_take (List.getElem_mem hj)
        exact hwz _ hm
      · rw [getD_out _ _ (by omega)]; exact wf_zero kd

/-- An own row of numbers reads as them. -/
theorem Ri.own {w : World} {base : Nat} {e : TypeId} {kd : IntKind} {v : Value} {zs : List Int} (h : w.ownsRow base e 1 v zs.length (zs.map (Value.int kd))) (hf : ∀ j, (Lit.int kd (zs.getD j 0)).wf = true) :
    ∃ a cap, v = .slice a zs.length cap ∧ Ri w kd a cap zs := by
  obtain ⟨hl, hn | ⟨g, cap, cur, rfl, hb, hg, hnc, hcm, hcur, htk⟩⟩ := id h
  · obtain ⟨rfl, h0⟩ := hn
    refine ⟨none, 0, by rw [h0], by omega, by unfold maxLen; omega, fun h1 => by omega, hf⟩
  · refine ⟨some ⟨g, 0, none⟩, cap, rfl, hnc, hcm, fun h0 => ⟨g, 0, rfl, ?_, fun j hj => ?_⟩, hf⟩
    · exact (Array.getElem?_eq_some_iff.1 hg).1
    · rw [Nat.zero_add, h.cellAt j (by omega), List.getElem?_map]
      simp [List.getD, List.getElem?_eq_getElem hj]

end Go.Proofs.Ytcapkkldjgmhfaa
/-
  Check, Gear, the statements' cut.
-/
namespace Go.Proofs.Ytcapkkldjgmhfaa
open Go.RowKit

theorem bel_alloc (w : World) (o : Obj) : Below w.heap.size w (w.alloc o) := (Below.refl _ _).alloc (Nat.le_refl _) o
theorem heap_new (w : World) (o : Obj) : (w.alloc o).heap[w.heap.size]? = some o := by
  show (w.heap.push o)[w.heap.size]? = _
  simp
theorem heap_old (w : World) (o : Obj) {i : Nat} {x : Obj} (h : w.heap[i]? = some x) : (w.alloc o).heap[i]? = some x := (Below.heap_alloc w o i (Array.getElem?_eq_some_iff.1 h).1).trans h

theorem heap_put_other {w : World} {g k i : Nat} {cs : Array Value} {t : TypeId} {fr : Nat × Nat} (h : w.heap[g]? = some (.cells cs t fr)) (hk : k ≠ g) (v : Value) : (w.setCell ⟨g, i, none⟩ v).heap[k]? = w.heap[k]? := by
  rw [setCell_eq_setRow w g i cs t fr v h]
  exact setRow_other w g k _ hk
theorem cut_any (a : Option Addr) (cap : Nat) (zs : List Int) (w : World) (hr : Ri w .u8 a cap zs) :
    Calls Try.prog 9 #[.slice a zs.length cap] w fun e w' => e = .returned (.slice a (zs.take 8192).length cap) ∧ w' = w := by
  have hcap := hr.room
  have hmax := hr.most
  unfold maxLen at hmax
  have hcells := hr.cells
  clear hr
  by_cases h : 8192 < zs.length
  · have hl : (zs.take 8192).length = 8192 := by simp; omega
    obtain ⟨b, off, rfl, hbw, hc⟩ := hcells (by omega)
    clear hcells hc hbw
    rw [hl]
    generalize zs.length = len at *
    clear hl
    go_enter Try.func9, Try.ntmps9
    go_wp2
    go_ret
    exact ⟨rfl, rfl⟩
  · have hl : (zs.take 8192).length = zs.length := by simp; omega
    rw [hl]
    generalize zs.length = len at *
    clear hcells hl
    go_enter Try.func9, Try.ntmps9
    go_wp2
    go_ret
    exact ⟨rfl, rfl⟩
/-- A byte's gear. -/
def gear1 (b : Int) : Int := IntKind.u64.wrap ((b + 1) * 11400714819323198485)
def gear2 (b : Int) : Int := IntKind.u64.wrap (bits .xor .u64 (gear1 b) (gear1 b / 536870912) * 13787848793156543929)
def gearZ (b : Int) : Int := bits .xor .u64 (gear2 b) (gear2 b / 4294967296)
theorem wrap_rng (x : Int) : 0 ≤ IntKind.u64.wrap x ∧ IntKind.u64.wrap x < 18446744073709551616 := by rw [IntKind.wrap_u64]; omega
theorem gear_rng (b : Int) : 0 ≤ gearZ b ∧ gearZ b < 18446744073709551616 := by
  have h := wrap_rng (bits .xor .u64 (gear1 b) (gear1 b / 536870912) * 13787848793156543929)
  have e : gearZ b = IntKind.u64.wrap (gearZ b) := by
    unfold gearZ
    unfold gear2
    generalize IntKind.u64.wrap _ = x at *
    rw [u64_xor x (x / 4294967296) (by omega) (by omega) (by omega) (by omega), IntKind.wrap_u64]
    have hx : x.toNat ^^^ (x / 4294967296).toNat < 2 ^ 64 := Nat.xor_lt_two_pow (by omega) (by omega)
    omega
  rw [e]; exact wrap_rng _
theorem gear_word (b : Int) (w : World) (h0 : 0 ≤ b) (h1 : b ≤ 255) : Calls Try.prog 12 #[.int .u8 b] w fun e w' => e = .returned (.int .u64 (gearZ b)) ∧ w' = w := by
  go_enter Try.func12, Try.ntmps12
  go_wp2
  go_ret
  exact ⟨rfl, rfl⟩
theorem gear_ref (b : Int) (w : World) (h0 : 0 ≤ b) (h1 : b ≤ 255) : Calls Try.prog 13 #[.int .u8 b] w fun e w' => e = .returned (.int .u64 (gearZ b)) ∧ w' = w := by
  go_enter Try.func13, Try.ntmps13
  go_wp2
  go_ret
  exact ⟨rfl, rfl⟩
/-- What Check tells. -/
def chkC (l m b : Int) : Int := if l < 1 ∨ m < l ∨ 4096 < m ∨ b < 0 ∨ 20 < b then 80 else 0
theorem chkC_or (l m b : Int) : chkC l m b = 0 ∨ chkC l m b = 80 := by unfold chkC; split <;> simp
theorem chkC_ok {l m b : Int} (h : chkC l m b = 0) : 1 ≤ l ∧ l ≤ m ∧ m ≤ 4096 ∧ 0 ≤ b ∧ b ≤ 20 := by
  unfold chkC at h
  split at h
  · cases h
  · omega
abbrev confV (l m b : Int) : Value := .agg #[.int .i64 l, .int .i64 m, .int .i64 b]
set_option maxHeartbeats 1600000 in
theorem check_word (l m b : Int) (w : World) : Calls Try.prog 10 #[.agg #[.int .i64 l, .int .i64 m, .int .i64 b]] w fun e w' => e = .returned (.int .i64 (chkC l m b)) ∧ Below w.heap.size w w' := by
  have HB := hid (bel_alloc w (.cells #[.int .i64 l, .int .i64 m, .int .i64 b] 23))
  obtain ⟨c, hc⟩ : ∃ c, c = chkC l m b := ⟨_, rfl⟩
  have HC := hid hc
  rw [← hc]
  clear hc
  by_cases h1 : l < 1
  · have HE : Hid (c = 80) := by show _ = _; rw [HC.out]; unfold chkC; rw [if_pos (.inl h1)]
    go_enter Try.func10, Try.ntmps10
    go_wp2
    go_ret
    exact ⟨by rw [HE.out]; rfl, HB.out⟩
  · by_cases h2 : m < l
    · have HE : Hid (c = 80) := by show _ = _; rw [HC.out]; unfold chkC; rw [if_pos (.inr (.inl h2))]
      go_enter Try.func10, Try.ntmps10
      go_wp2
      go_ret
      exact ⟨by rw [HE.out]; rfl, HB.out⟩
    · by_cases h3 : 4096 < m
      · have HE : Hid (c = 80) := by show _ = _; rw [HC.out]; unfold chkC; rw [if_pos (.inr (.inr (.inl h3)))]
        go_enter Try.func10, Try.ntmps10
        go_wp2
        go_ret
        exact ⟨by rw [HE.out]; rfl, HB.out⟩
      · by_cases h4 : b < 0
        · have HE : Hid (c = 80) := by show _ = _; rw [HC.out]; unfold chkC; rw [if_pos (.inr (.inr (.inr (.inl h4))))]
          go_enter Try.func10, Try.ntmps10
          go_wp2
          go_ret
          exact ⟨by rw [HE.out]; rfl, HB.out⟩
        · by_cases h5 : 20 < b
          · have HE : Hid (c = 80) := by show _ = _; rw [HC.out]; unfold chkC; rw [if_pos (.inr (.inr (.inr (.inr h5))))]
            go_enter Try.func10, Try.ntmps10
            go_wp2
            go_ret
            exact ⟨by rw [HE.out]; rfl, HB.out⟩
          · have HE : Hid (c = 0) := by show _ = _; rw [HC.out]; unfold chkC; rw [if_neg (by omega)]
            go_enter Try.func10, Try.ntmps10
            go_wp2
            go_ret
            exact ⟨by rw [HE.out]; rfl, HB.out⟩
set_option maxHeartbeats 1600000 in
theorem check_ref (l m b : Int) (w : World) : Calls Try.prog 11 #[.agg #[.int .i64 l, .int .i64 m, .int .i64 b]] w fun e w' => e = .returned (.int .i64 (chkC l m b)) ∧ Below w.heap.size w w' := by
  have HB := hid (bel_alloc w (.cells #[.int .i64 l, .int .i64 m, .int .i64 b] 23))
  obtain ⟨c, hc⟩ : ∃ c, c = chkC l m b := ⟨_, rfl⟩
  have HC := hid hc
  rw [← hc]
  clear hc
  by_cases h1 : l < 1
  · have HE : Hid (c = 80) := by show _ = _; rw [HC.out]; unfold chkC; rw [if_pos (.inl h1)]
    go_enter Try.func11, Try.ntmps11
    go_wp2
    go_ret
    exact ⟨by rw [HE.out]; rfl, HB.out⟩
  · by_cases h2 : m < l
    · have HE : Hid (c = 80) := by show _ = _; rw [HC.out]; unfold chkC; rw [if_pos (.inr (.inl h2))]
      go_enter Try.func11, Try.ntmps11
      go_wp2
      go_ret
      exact ⟨by rw [HE.out]; rfl, HB.out⟩
    · by_cases h3 : 4096 < m
      · have HE : Hid (c = 80) := by show _ = _; rw [HC.out]; unfold chkC; rw [if_pos (.inr (.inr (.inl h3)))]
        go_enter Try.func11, Try.ntmps11
        go_wp2
        go_ret
        exact ⟨by rw [HE.out]; rfl, HB.out⟩
      · by_cases h4 : b < 0
        · have HE : Hid (c = 80) := by show _ = _; rw [HC.out]; unfold chkC; rw [if_pos (.inr (.inr (.inr (.inl h4))))]
          go_enter Try.func11, Try.ntmps11
          go_wp2
          go_ret
          exact ⟨by rw [HE.out]; rfl, HB.out⟩
        · by_cases h5 : 20 < b
          · have HE : Hid (c = 80) := by show _ = _; rw [HC.out]; unfold chkC; rw [if_pos (.inr (.inr (.inr (.inr h5))))]
            go_enter Try.func11, Try.ntmps11
            go_wp2
            go_ret
            exact ⟨by rw [HE.out]; rfl, HB.out⟩
          · have HE : Hid (c = 0) := by show _ = _; rw [HC.out]; unfold chkC; rw [if_neg (by omega)]
            go_enter Try.func11, Try.ntmps11
            go_wp2
            go_ret
            exact ⟨by rw [HE.out]; rfl, HB.out⟩
end Go.Proofs.Ytcapkkldjgmhfaa
/-
  Hash, of the code and of the document.
-/
namespace Go.Proofs.Ytcapkkldjgmhfaa
open Go.RowKit

/-- A hash with one byte more. -/
def stepZ (h b : Int) : Int := IntKind.u64.wrap (IntKind.u64.wrap (2 * h) + gearZ b)
def hashL (h : Int) (bs : List Int) : Int := bs.foldl stepZ h
theorem hash_snoc (h : Int) (bs : List Int) (k : Nat) (hk : k < bs.length) : hashL h (bs.take (k + 1)) = stepZ (hashL h (bs.take k)) (bs.getD k 0) := by
  rw [List.take_add_one, List.getElem?_eq_getElem hk, hashL, List.foldl_append]
  simp [List.getD, List.getElem?_eq_getElem hk, hashL]
theorem step_rng (h b : Int) : 0 ≤ stepZ h b ∧ stepZ h b < 18446744073709551616 := wrap_rng _
theorem hash_rng (h : Int) (hh : 0 ≤ h ∧ h < 18446744073709551616) (bs : List Int) : 0 ≤ hashL h bs ∧ hashL h bs < 18446744073709551616 := by
  induction bs generalizing h with
  | nil => exact hh
  | cons b bs ih => exact ih _ (step_rng h b)
theorem shl_one (h : Int) : IntKind.u64.wrap (h * 2) = IntKind.u64.wrap (2 * h) := by rw [Int.mul_comm]

set_option maxHeartbeats 1600000 in
theorem hash_word (h : Int) (a : Option Addr) (cap : Nat) (bs : List Int) (w : World) (hr : Ri w .u8 a cap bs) (h0 : 0 ≤ h) (h1 : h < 18446744073709551616) :
    Calls Try.prog 14 #[.int .u64 h, .slice a bs.length cap] w fun e w' => e = .returned (.int .u64 (hashL h bs)) ∧ w' = w := by
  have hroom := hr.room
  have hmost := hr.most
  unfold maxLen at hmost
  have HR := hid hr
  clear hr
  obtain ⟨len, hl⟩ : ∃ n, n = bs.length := ⟨_, rfl⟩
  have HL := hid hl
  rw [← hl] at hroom ⊢
  clear hl
  go_enter Try.func14, Try.ntmps14
  go_wp2_with fail
  go_loopw [0, 9] (fun x y wr => wr = w ∧ ∃ k : Nat, k ≤ len ∧ y = .int .i64 (k : Int) ∧ x = .int .u64 (hashL h (bs.take k))) (fun _ y _ => len - (intOf y).toNat)
  case atStart => exact ⟨rfl, 0, Nat.zero_le _, rfl, rfl⟩
  case round =>
    obtain ⟨rfl, k, hk, rfl, rfl⟩ := hrel
    by_cases hlt : k < len
    · obtain ⟨b, off, rfl, hbw, hc⟩ := HR.out.cells (by rw [← HL.out]; omega)
      have c := hc k (by rw [← HL.out]; exact hlt)
      have hu := wf_u8 (HR.out.fits k)
      have hs := hash_snoc h bs k (by rw [← HL.out]; exact hlt)
      have hg := hash_rng h ⟨h0, h1⟩ (bs.take k)
      generalize bs.getD k 0 = z at *
      generalize hashL h (bs.take k) = x at *
      have HS := hid hs
      have HG := hid (gear_word z wr hu.1 hu.2)
      have hgr := gear_rng z
      have hki : (k : Int) < (len : Int) := by omega
      clear hc hs hbw
      go_wp2_with fail
      refine HG.out.mono ?_
      rintro _ w1 ⟨rfl, rfl⟩
      go_wp2_with fail
      exact ⟨⟨trivial, k + 1, hlt, by go_num, by rw [HS.out, shl_one]; rfl⟩, by simp only [intOf]; omega⟩
    · have hkn : k = len := by omega
      have hki : ¬ (k : Int) < (len : Int) := by omega
      subst hkn
      have hE : hashL h (bs.take k) = hashL h bs := by rw [HL.out, List.take_length]
      rw [hE]
      go_wp2_with fail
      go_ret
      exact ⟨rfl, rfl⟩
set_option maxHeartbeats 1600000 in
theorem hash_ref (h : Int) (a : Option Addr) (cap : Nat) (bs : List Int) (w : World) (hr : Ri w .u8 a cap bs) (h0 : 0 ≤ h) (h1 : h < 18446744073709551616) :
    Calls Try.prog 15 #[.int .u64 h, .slice a bs.length cap] w fun e w' => e = .returned (.int .u64 (hashL h bs)) ∧ w' = w := by
  have hroom := hr.room
  have hmost := hr.most
  unfold maxLen at hmost
  have HR := hid hr
  clear hr
  obtain ⟨len, hl⟩ : ∃ n, n = bs.length := ⟨_, rfl⟩
  have HL := hid hl
  rw [← hl] at hroom ⊢
  clear hl
  go_enter Try.func15, Try.ntmps15
  go_wp2_with fail
  go_loopw [0, 5] (fun x y wr => wr = w ∧ ∃ k : Nat, k ≤ len ∧ y = .int .i64 (k : Int) ∧ x = .int .u64 (hashL h (bs.take k))) (fun _ y _ => len - (intOf y).toNat)
  case atStart => exact ⟨rfl, 0, Nat.zero_le _, rfl, rfl⟩
  case round =>
    obtain ⟨rfl, k, hk, rfl, rfl⟩ := hrel
    by_cases hlt : k < len
    · obtain ⟨b, off, rfl, hbw, hc⟩ := HR.out.cells (by rw [← HL.out]; omega)
      have c := hc k (by rw [← HL.out]; exact hlt)
      have hu := wf_u8 (HR.out.fits k)
      have hs := hash_snoc h bs k (by rw [← HL.out]; exact hlt)
      have hg := hash_rng h ⟨h0, h1⟩ (bs.take k)
      generalize bs.getD k 0 = z at *
      generalize hashL h (bs.take k) = x at *
      have HS := hid hs
      have HG := hid (gear_ref z wr hu.1 hu.2)
      have hgr := gear_rng z
      have hki : (k : Int) < (len : Int) := by omega
      clear hc hs hbw
      go_wp2_with fail
      refine HG.out.mono ?_
      rintro _ w1 ⟨rfl, rfl⟩
      go_wp2_with fail
      exact ⟨⟨trivial, k + 1, hlt, by go_num, by rw [HS.out]; rfl⟩, by simp only [intOf]; omega⟩
    · have hkn : k = len := by omega
      have hki : ¬ (k : Int) < (len : Int) := by omega
      subst hkn
      have hE : hashL h (bs.take k) = hashL h bs := by rw [HL.out, List.take_length]
      rw [hE]
      go_wp2_with fail
      go_ret
      exact ⟨rfl, rfl⟩
/-- A chunk of n bytes with this hash ends. -/
def endB (l m b : Int) (n h : Int) : Bool := (n == m) || (decide (l ≤ n) && (h / 2 ^ (64 - b).toNat == 0))
end Go.Proofs.Ytcapkkldjgmhfaa
/-
  Whether a chunk ends, by the code and by the document.
-/
namespace Go.Proofs.Ytcapkkldjgmhfaa
open Go.RowKit

set_option maxHeartbeats 1600000 in
theorem ended_word (l m b n h : Int) (w : World) (hc : chkC l m b = 0) (_h0 : 0 ≤ h) (_h1 : h < 18446744073709551616) :
    Calls Try.prog 30 #[.agg #[.int .i64 n, .int .u64 h], .agg #[.int .i64 l, .int .i64 m, .int .i64 b]] w fun e w' => e = .returned (.bool (endB l m b n h)) ∧ Below w.heap.size w w' := by
  obtain ⟨q1, q2, q3, q4, q5⟩ := chkC_ok hc
  have HB := hid (Bn (bel_alloc w (.cells #[.int .i64 n, .int .u64 h] 61)) (bel_alloc _ (.cells #[.int .i64 l, .int .i64 m, .int .i64 b] 23)))
  obtain ⟨r, hr⟩ : ∃ r, r = endB l m b n h := ⟨_, rfl⟩
  have HR := hid hr
  rw [← hr]
  clear hr hc
  by_cases e1 : n = m
  · have HE : Hid (r = true) := by show _ = _; rw [HR.out]; unfold endB; rw [beq_iff_eq.2 e1]; rfl
    subst e1
    go_enter Try.func30, Try.ntmps30
    go_wp2
    go_ret
    exact ⟨by rw [HE.out]; rfl, HB.out⟩
  · have hne : (n == m) = false := beq_eq_false_iff_ne.2 e1
    by_cases e2 : l ≤ n
    · have HE : Hid (r = (h / 2 ^ (64 - b).toNat == 0)) := by show _ = _; rw [HR.out]; unfold endB; rw [hne, decide_eq_true e2]; rfl
      go_enter Try.func30, Try.ntmps30
      go_wp2
      go_ret
      exact ⟨by rw [HE.out]; rfl, HB.out⟩
    · have HE : Hid (r = false) := by show _ = _; rw [HR.out]; unfold endB; rw [hne, decide_eq_false e2]; rfl
      go_enter Try.func30, Try.ntmps30
      go_wp2
      go_ret
      exact ⟨by rw [HE.out]; rfl, HB.out⟩
set_option maxHeartbeats 1600000 in
theorem ends_ref (l m b n h : Int) (w : World) (hc : chkC l m b = 0) (h0 : 0 ≤ h) (h1 : h < 18446744073709551616) :
    Calls Try.prog 35 #[.agg #[.int .i64 l, .int .i64 m, .int .i64 b], .int .i64 n, .int .u64 h] w fun e w' => e = .returned (.bool (endB l m b n h)) ∧ Below w.heap.size w w' := by
  obtain ⟨q1, q2, q3, q4, q5⟩ := chkC_ok hc
  have HB := hid (bel_alloc w (.cells #[.int .i64 l, .int .i64 m, .int .i64 b] 23))
  obtain ⟨r, hr⟩ : ∃ r, r = endB l m b n h := ⟨_, rfl⟩
  have HR := hid hr
  rw [← hr]
  clear hr hc
  by_cases e1 : n = m
  · have HE : Hid (r = true) := by show _ = _; rw [HR.out]; unfold endB; rw [beq_iff_eq.2 e1]; rfl
    subst e1
    go_enter Try.func35, Try.ntmps35
    go_wp2
    go_ret
    exact ⟨by rw [HE.out]; rfl, HB.out⟩
  · have hne : (n == m) = false := beq_eq_false_iff_ne.2 e1
    by_cases e2 : l ≤ n
    · have HE : Hid (r = (h / 2 ^ (64 - b).toNat == 0)) := by show _ = _; rw [HR.out]; unfold endB; rw [hne, decide_eq_true e2]; rfl
      by_cases e3 : b = 0
      · subst e3
        have HE2 : Hid (r = true) := by
          show _ = _
          rw [HE.out, beq_iff_eq]
          exact Int.ediv_eq_zero_of_lt h0 (by show h < 2 ^ 64; omega)
        go_enter Try.func35, Try.ntmps35
        go_wp2
        go_ret
        exact ⟨by rw [HE2.out]; rfl, HB.out⟩
      · have hb0 : (b == 0) = false := beq_eq_false_iff_ne.2 e3
        go_enter Try.func35, Try.ntmps35
        go_wp2
        go_ret
        exact ⟨by rw [HE.out]; rfl, HB.out⟩
    · have HE : Hid (r = false) := by show _ = _; rw [HR.out]; unfold endB; rw [hne, decide_eq_false e2]; rfl
      go_enter Try.func35, Try.ntmps35
      go_wp2
      go_ret
      exact ⟨by rw [HE.out]; rfl, HB.out⟩
end Go.Proofs.Ytcapkkldjgmhfaa
/-
  Steps through a region that draws its order, in the order of the text: what yields in every world that meets S is taken first, its slot named.
-/
namespace Go.Proofs.Ytcapkkldjgmhfaa.Ord
section
variable {P : Program} {md : Region.Mode} {ops : Array Oper} {Q : Exit → Act → World → Prop} {S : World → Prop}

theorem take {i d : Nat} {oi : Oper} {v : Value} {fuel : Nat} {listed : Array Bool} {ts : Array Value} {df : List Deferred} {w : World} (hi : ops[i]? = some oi) (hd : oi.dst = some d)
    (hs : Region.noSelect ops = true) (hf : Region.free md ops listed i = true) (hr : (Region.ready md ops listed).contains i = true)
    (hQ : ∀ c a w, Q (.panic c) (a.put oi.dst v) w → Q (.panic c) a w) (hw : Region.wanted oi (yielded ops ts) = true)
    (hy : ∀ w, S w → (execOp (Act.eval ⟨ts, df⟩) oi).run P w = .ok (.value v) w) (hS : S w)
    (h : wpAnyH P md ops Q S fuel (listed.setIfInBounds i true) ⟨ts.setIfInBounds d v, df⟩ w) : wpAnyH P md ops Q S (fuel + 1) listed ⟨ts, df⟩ w :=
  wpAnyH_take hi hs hf hr hQ (Or.inl ⟨hw, hy⟩) hS (by rw [hd]; exact h)

theorem put {d : Nat} {o : Oper} (hd : o.dst = some d) {fuel : Nat} {listed : Array Bool} {ts : Array Value} {df : List Deferred} {v : Value} {w : World}
    (h : wpAnyH P md ops Q S fuel listed ⟨ts.setIfInBounds d v, df⟩ w) : wpAnyH P md ops Q S fuel listed (Act.put ⟨ts, df⟩ o.dst v) w := by
  rw [hd]; exact h

theorem skip {i d : Nat} {oi : Oper} {fuel : Nat} {listed : Array Bool} {ts : Array Value} {df : List Deferred} {w : World} (hi : ops[i]? = some oi) (hd : oi.dst = some d)
    (hs : Region.noSelect ops = true) (hf : Region.free md ops listed i = true) (hr : (Region.ready md ops listed).contains i = true)
    (hQ : ∀ c a w, Q (.panic c) (a.put oi.dst undef) w → Q (.panic c) a w) (hw : Region.wanted oi (yielded ops ts) = false) (hS : S w)
    (h : wpAnyH P md ops Q S fuel (listed.setIfInBounds i true) ⟨ts.setIfInBounds d undef, df⟩ w) : wpAnyH P md ops Q S (fuel + 1) listed ⟨ts, df⟩ w :=
  wpAnyH_take hi hs hf hr hQ (Or.inr ⟨hw, rfl⟩) hS (by rw [hd]; exact h)

/-- S may be exchanged for a stronger one. -/
theorem more {S' : World → Prop} (hS : ∀ w, S' w → S w) : ∀ (fuel : Nat) (listed : Array Bool) (a : Act) (w : World), wpAnyH P md ops Q S' fuel listed a w → wpAnyH P md ops Q S fuel listed a w
  | 0, _, _, _, h => h
  | fuel + 1, _, _, _, h => ⟨h.1, fun i hi => wpOp_mono (fun a' w' h' => ⟨hS _ h'.1, more hS fuel _ a' w' h'.2⟩) (h.2 i hi)⟩
end
end Go.Proofs.Ytcapkkldjgmhfaa.Ord
/-
  Steps through a region that draws its order: as in Ord, but behind one operation that waits for all that are taken nothing is asked of the world.
-/
namespace Go.Proofs.Ytcapkkldjgmhfaa.OrdE
open Go.RowKit
section
variable {P : Program} {md : Region.Mode} {ops : Array Oper} {Q : Exit → Act → World → Prop} {S : World → Prop} {f : Nat}

/-- Whichever operation comes up; S holds behind each but the one numbered f. -/
def Goes (P : Program) (md : Region.Mode) (ops : Array Oper) (Q : Exit → Act → World → Prop) (S : World → Prop) (f : Nat) : Nat → Array Bool → Act → World → Prop
  | 0, l, a, w => Region.ready md ops l = [] ∧ Q .normal a w
  | n + 1, l, a, w => (Region.ready md ops l = [] → Q .normal a w) ∧ ∀ i ∈ Region.ready md ops l, wpOp P ops Q i (fun a' w' => (i ≠ f → S w') ∧ Goes P md ops Q S f n (l.setIfInBounds i true) a' w') a w

theorem Goes.any : ∀ (n : Nat) (l : Array Bool) (a : Act) (w : World), Goes P md ops Q S f n l a w → wpAny P md ops Q n l a w
  | 0, _, _, _, h => h
  | n + 1, _, _, _, h => ⟨h.1, fun i hi => wpOp_mono (fun a' w' h' => Goes.any n _ a' w' h'.2) (h.2 i hi)⟩

theorem first {i : Nat} {oi of' : Oper} {v : Value} (hi : ops[i]? = some oi) (hf : ops[f]? = some of') (hdep : (of'.after.any fun e => Region.binds md e && e.on == i) = true) (hsel : ∀ (j : Nat) (o : Oper) cs b, ops[j]? = some o → o.op ≠ .select cs b)
    (hQ : ∀ c a w, Q (.panic c) (a.put oi.dst v) w → Q (.panic c) a w) :
    ∀ (n : Nat) (l : Array Bool) (a : Act) (w : World),
      (∀ j oj, ops[j]? = some oj → j ≠ i → l.getD j true = false → (∀ e ∈ oj.after, Region.binds md e = true → e.on ≠ i) → oi.apart ops oj = true) →
      i ∈ Region.ready md ops l → YieldsIf P ops S oi v a → S w →
      Goes P md ops Q S f n (l.setIfInBounds i true) (a.put oi.dst v) w → Goes P md ops Q S f (n + 1) l a w := by
  intro n
  induction n with
  | zero =>
    intro l a w _ hr hy hS H
    refine ⟨fun h => absurd hr (by rw [h]; simp), fun j hj => ?_⟩
    by_cases e : j = i
    · subst e; exact hy.wpOp hi hS ⟨fun _ => hS, H⟩
    · exact absurd (ready_mono hj e) (by rw [H.1]; simp)
  | succ n ih =>
    intro l a w hfree hr hy hS H
    refine ⟨fun h => absurd hr (by rw [h]; simp), fun j hj => ?_⟩
    by_cases e : j = i
    · subst e; exact hy.wpOp hi hS ⟨fun _ => hS, H⟩
    · obtain ⟨hun, oj, hoj, hall⟩ := mem_ready.1 hj
      have hnot : ∀ x ∈ oj.after, Region.binds md x = true → x.on ≠ i := fun x hx hb hq => by
        have h1 := hall x hx hb
        have h0 := (mem_ready.1 hr).1
        rw [hq] at h1
        rcases Nat.lt_or_ge i l.size with h' | h'
        · simp [h'] at h0 h1; rw [h0] at h1; cases h1
        · simp [Array.getElem?_eq_none h'] at h1
      have hjf : j ≠ f := fun hq => by
        subst hq
        rw [hf] at hoj
        injection hoj with hoj
        subst hoj
        obtain ⟨x, hx, hxx⟩ := Array.any_eq_true'.1 hdep
        rw [Bool.and_eq_true, beq_iff_eq] at hxx
        exact hnot x hx hxx.1 hxx.2
      have h2 := wpOp_putIf hoj (hfree j oj hoj e hun hnot) (fun cs b => hsel i oi cs b hi) (fun cs b => hsel j oj cs b hoj) hQ hy (H.2 j (ready_mono hj e))
      refine wpOp_mono (fun a' w' h3 => ⟨fun _ => h3.2.1 hjf, ih (l.setIfInBounds j true) a' w' (fun k ok hk hki hu hno => hfree k ok hk hki ?_ hno) (ready_mono hr (Ne.symm e)) h3.1 (h3.2.1 hjf) ?_⟩) h2
      · by_cases hjk : j = k
        · subst hjk; exact hun
        · rw [getD_set_ne true hjk] at hu; exact hu
      · rw [Array.setIfInBounds_comm _ _ e]
        exact h3.2.2

theorem take {i d : Nat} {oi of' : Oper} {v : Value} {n : Nat} {l : Array Bool} {ts : Array Value} {df : List Deferred} {w : World} (hi : ops[i]? = some oi) (hd : oi.dst = some d) (hf' : ops[f]? = some of') (hdep : (of'.after.any fun e => Region.binds md e && e.on == i) = true)
    (hs : Region.noSelect ops = true) (hf : Region.free md ops l i = true) (hr : (Region.ready md ops l).contains i = true)
    (hQ : ∀ c a w, Q (.panic c) (a.put oi.dst v) w → Q (.panic c) a w) (hw : Region.wanted oi (yielded ops ts) = true)
    (hy : ∀ w, S w → (execOp (Act.eval ⟨ts, df⟩) oi).run P w = .ok (.value v) w) (hS : S w)
    (h : Goes P md ops Q S f n (l.setIfInBounds i true) ⟨ts.setIfInBounds d v, df⟩ w) : Goes P md ops Q S f (n + 1) l ⟨ts, df⟩ w :=
  first hi hf' hdep (Region.noSelect_spec hs) hQ n l _ w (Region.free_spec hi hf) (by simpa using hr) (Or.inl ⟨hw, hy⟩) hS (by rw [hd]; exact h)

/-- The one operation that can come up. -/
theorem one {i : Nat} {o : Oper} {n : Nat} {l : Array Bool} {a : Act} {w : World} (hr : Region.ready md ops l = [i]) (ho : ops[i]? = some o)
    (h : ∀ K' : Act → World → Prop, Shut (∀ a w, (i ≠ f → S w) → Goes P md ops Q S f n (l.setIfInBounds i true) a w → K' a w) → if Region.wanted o (yielded ops a.tmps) = true then Oper.wp P o a w K' Q else K' (a.put o.dst undef) w) :
    Goes P md ops Q S f (n + 1) l a w := by
  refine ⟨fun h0 => absurd h0 (by rw [hr]; simp), fun j hj => ?_⟩
  rw [hr, List.mem_singleton] at hj
  subst hj
  exact wpOp_step ho (fun K' hK => h K' (fun a w h1 h2 => hK a w ⟨h1, h2⟩))

theorem done {l : Array Bool} {a : Act} {w : World} (hr : Region.ready md ops l = []) (h : Q .normal a w) : ∀ n, Goes P md ops Q S f n l a w
  | 0 => ⟨hr, h⟩
  | _ + 1 => ⟨fun _ => h, by rw [hr]; simp⟩

theorem put {d : Nat} {o : Oper} (hd : o.dst = some d) {n : Nat} {l : Array Bool} {ts : Array Value} {df : List Deferred} {v : Value} {w : World}
    (h : Goes P md ops Q S f n l ⟨ts.setIfInBounds d v, df⟩ w) : Goes P md ops Q S f n l (Act.put ⟨ts, df⟩ o.dst v) w := by
  rw [hd]; exact h
end

theorem region {P : Program} {ops : Array Oper} {Q : Exit → Act → World → Prop} {id : Nat} {a : Act} {w : World} (S : World → Prop) (f : Nat) (hm : P.follows .mixedOrders = true) (hS : S w.drew)
    (h : S w.drew → Goes P .any ops Q S f ops.size (Array.replicate ops.size false) a w.drew) : (Code.region id ops true).wp P Q a w :=
  wp_region_any hm (Goes.any _ _ _ _ (h hS))
end Go.Proofs.Ytcapkkldjgmhfaa.OrdE
