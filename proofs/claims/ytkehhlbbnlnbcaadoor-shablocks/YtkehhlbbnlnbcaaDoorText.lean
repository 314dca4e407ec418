/-
  The contracts of strings.Builder's copyCheck and WriteByte at this program, and of sha.Text.
-/
import Derived.Test.YtkehhlbbnlnbcaaDoorStepW
import Derived.Test.YtkehhlbbnlnbcaaDoorOwn
import Derived.Test.YtkehhlbbnlnbcaaDoorShelf
namespace Go.Proofs.YtkehhlbbnlnbcaaDoor
open Go.RowKit Sha

theorem Tryd.size72 : (Tryd.prog.info? 72).map (·.size) = some 2 := by kernel_rfl
theorem Tryd.lies72 : liesAt Tryd.prog Tryd.prog.depth 72 (2 / Tryd.prog.cellsOf 72) 0 72 1 = true := by kernel_rfl

theorem check_used (b : Nat) (w : World) (h0 : w.cell? ⟨b, 0, none⟩ = some (.pointer (some ⟨b, 0, none⟩))) :
    Calls Tryd.prog 47 #[.pointer (some ⟨b, 0, none⟩)] w fun e w' => e = .returned (.tuple #[]) ∧ w' = w := by
  obtain ⟨j, hj, _⟩ := Option.map_eq_some_iff.1 Tryd.size72
  go_enter Tryd.func47, Tryd.ntmps47
  go_wp2
  rw [Lib.run_neq_ptr_same w _ Tryd.underlying70 hj]
  go_wp2
  go_end0
  exact ⟨rfl, rfl⟩

theorem check_fresh (b : Nat) (w : World) (h0 : w.cell? ⟨b, 0, none⟩ = some (.pointer none)) (hsh : w.shape? b = some (72, 2)) (hfz : w.frozen? ⟨b, 0, none⟩ = false) :
    Calls Tryd.prog 47 #[.pointer (some ⟨b, 0, none⟩)] w fun e w' => e = .returned (.tuple #[]) ∧ w' = w.setCell ⟨b, 0, none⟩ (.pointer (some ⟨b, 0, none⟩)) := by
  obtain ⟨j, hj, hjs⟩ := Option.map_eq_some_iff.1 Tryd.size72
  have h1 := Lib.run_to_unsafe (P := Tryd.prog) w ⟨b, 0, none⟩ Tryd.underlying70 Tryd.underlying87 hj (by rw [hjs]; decide) hsh (Nat.zero_lt_succ 1)
  have h2 := Lib.run_from_unsafe (P := Tryd.prog) w ⟨b, 0, none⟩ Tryd.underlying87 Tryd.underlying70 hj hsh Tryd.lies72
  go_enter Tryd.func47, Tryd.ntmps47
  go_wp2
  rw [run_callFunc_extern Tryd.func50 (by kernel_rfl) (by kernel_rfl) (by kernel_rfl) (e := Extern.AbiNoEscape.same) (by kernel_rfl), Lib.run_noEscape]
  simp only [Result.andThen]
  rw [Oper.upon_value]
  go_wp2
  go_end0
  exact ⟨rfl, rfl⟩

theorem check_any (B b : Nat) (bs : List Value) (w : World) (h : Lib.IsBuilder 72 5 B b bs w) :
    Calls Tryd.prog 47 #[.pointer (some ⟨b, 0, none⟩)] w fun e w' => e = .returned (.tuple #[]) ∧ Lib.BuilderAt 72 5 B b (.pointer (some ⟨b, 0, none⟩)) bs w' ∧ Below B w w' := by
  rcases h with h | h
  · refine (check_fresh b w h.cell0 h.shape h.frozen0).mono ?_
    rintro e w' ⟨rfl, rfl⟩
    exact ⟨rfl, h.used _, (Below.refl B w).setCell (p := ⟨b, 0, none⟩) h.1 _⟩
  · refine (check_used b w h.cell0).mono ?_
    rintro e w' ⟨rfl, rfl⟩
    exact ⟨rfl, h, Below.refl B _⟩

set_option maxHeartbeats 1600000 in
theorem write_byte (B b : Nat) (bs : List Value) (c : Int) (w : World) (h : Lib.IsBuilder 72 5 B b bs w) (hlen : bs.length + 1 ≤ 1000000) (hBw : B ≤ w.heap.size) :
    Calls Tryd.prog 38 #[.pointer (some ⟨b, 0, none⟩), .int .u8 c] w fun e w' => e = .returned .nilIface ∧ Lib.BuilderAt 72 5 B b (.pointer (some ⟨b, 0, none⟩)) (bs ++ [.int .u8 c]) w' ∧ Below B w w' := by
  obtain ⟨i0, hi, hz0, hz1, hz2⟩ := info_parts Tryd.info5
  have HC := hid (check_any B b bs w h)
  clear h
  go_enter Tryd.func38, Tryd.ntmps38
  go_wp2_with fail
  go_at_call 47
  refine HC.out.mono ?_
  rintro _ w1 ⟨rfl, h1, hb1⟩
  obtain ⟨hB, v, hbk, hown, hne⟩ := h1
  have c0 : w1.cell? ⟨b, 0, none⟩ = some (.pointer (some ⟨b, 0, none⟩)) := by rw [Lib.cell_of_heap hbk]; rfl
  have c1 : w1.cell? ⟨b, 1, none⟩ = some v := by rw [Lib.cell_of_heap hbk]; rfl
  have hlt : b < w1.heap.size := (Array.getElem?_eq_some_iff.1 hbk).1
  have hsz := hb1.size
  go_wp2_with (at_builtin; refine wpList_append_own _ rfl _ _ 35 rfl B 5 i0 (.int .u8 0) 1 1 Tryd.underlying35 hi hz0 hz1 hz2 rfl (by decide) _ _ _ rfl (hown.alloc _) ⟨w1.heap.size, 0, none⟩ 1 1 [.int .u8 c] rfl rfl (one_new w1 _) (one_cell _) (by unfold maxLen; omega) (by omega) (by simp; omega) ?_)
  intro v' w2 hown' hgrow _
  have hb2 : w2.heap[b]? = some (.cells #[.pointer (some ⟨b, 0, none⟩), v] 72 (0, 0)) := by
    rw [hgrow.block b (by simp; omega) (fun e => hne e.symm), Lib.alloc_old w1 _ b hlt]
    exact hbk
  have d0 : w2.cell? ⟨b, 0, none⟩ = some (.pointer (some ⟨b, 0, none⟩)) := by rw [Lib.cell_of_heap hb2]; rfl
  have d1 : w2.cell? ⟨b, 1, none⟩ = some v := by rw [Lib.cell_of_heap hb2]; rfl
  have f1 : w2.frozen? ⟨b, 1, none⟩ = false := Lib.frozen_of_heap hb2 1
  have HP : Hid (Lib.BuilderAt 72 5 B b (.pointer (some ⟨b, 0, none⟩)) (bs ++ [.int .u8 c]) (w2.setCell ⟨b, 1, none⟩ v')) := Lib.BuilderAt.put hB hb2 (by simpa using hown') (by decide)
  have HB : Hid (Below B w (w2.setCell ⟨b, 1, none⟩ v')) := ((hb1.alloc (by omega) _).grown hgrow (by simp; omega) (fun k hk => (hown.lt k hk).1)).setCell (p := ⟨b, 1, none⟩) hB _
  obtain ⟨g, cap, rfl⟩ : ∃ g cap, v' = .slice (some ⟨g, 0, none⟩) (bs.length + 1) cap := by
    rcases hown'.2 with ⟨_, h0⟩ | ⟨g, cap, cur, hv, _⟩
    · omega
    · exact ⟨g, cap, hv⟩
  clear hown' hgrow hown hb2 hbk hne
  go_wp2
  go_ret
  exact ⟨rfl, HP.out, HB.out⟩

/-- The signs of a text. -/
def hexL : List Nat := [48, 49, 50, 51, 52, 53, 54, 55, 56, 57, 97, 98, 99, 100, 101, 102]
def dig (n : Nat) : Nat := hexL.getD n 0
def textN (d : List Nat) : List Nat := d.flatMap fun b => [dig (b / 16), dig (b % 16)]
def bytesU (l : List Nat) : List UInt8 := l.map Nat.toUInt8
theorem dig_lt (n : Nat) : dig n < 256 := by
  by_cases h : n < 16
  · have : ∀ i : Fin 16, dig i.val < 256 := by decide
    exact this ⟨n, h⟩
  · rw [dig, List.getD, List.getElem?_eq_none (by show hexL.length ≤ n; rw [show hexL.length = 16 from rfl]; omega)]
    decide
theorem cellsU (l : List Nat) (h : ∀ z ∈ l, z < 256) : Lib.byteCells (bytesU l) = V l := by
  simp only [Lib.byteCells, bytesU, V, List.map_map]
  refine List.map_congr_left (fun z hz => ?_)
  have := h z hz
  simp
  omega
theorem textN_lt (d : List Nat) : ∀ z ∈ textN d, z < 256 := by
  intro z hz
  simp only [textN, List.mem_flatMap] at hz
  obtain ⟨b, _, hb⟩ := hz
  simp at hb
  rcases hb with rfl | rfl <;> exact dig_lt _
theorem textN_take (d : List Nat) (k : Nat) (hk : k < d.length) : textN (d.take (k + 1)) = textN (d.take k) ++ [dig (d.getD k 0 / 16)] ++ [dig (d.getD k 0 % 16)] := by
  have e : d.take (k + 1) = d.take k ++ [d.getD k 0] := by
    rw [List.take_succ_eq_append_getElem hk]
    simp [List.getD, List.getElem?_eq_getElem hk]
  rw [e, textN, List.flatMap_append]
  simp [textN]
theorem textN_length (d : List Nat) : (textN d).length = 2 * d.length := by
  induction d with
  | nil => rfl
  | cons b d ih => simp [textN] at *; omega

def digB : ByteArray := ⟨#[48, 49, 50, 51, 52, 53, 54, 55, 56, 57, 97, 98, 99, 100, 101, 102]⟩
theorem dig_get (n : Nat) (h : n < (⟨#[48, 49, 50, 51, 52, 53, 54, 55, 56, 57, 97, 98, 99, 100, 101, 102]⟩ : ByteArray).size) : ((⟨#[48, 49, 50, 51, 52, 53, 54, 55, 56, 57, 97, 98, 99, 100, 101, 102]⟩ : ByteArray)[n]'h).toNat = dig n := by
  have : ∀ i : Fin 16, (digB[i.val]'(i.isLt)).toNat = dig i.val := by decide +kernel
  exact this ⟨n, h⟩

theorem and15 (b : Nat) (h : b < 256) : bits .and .u8 (b : Int) 15 = ((b % 16 : Nat) : Int) := by
  have : ∀ i : Fin 256, bits .and .u8 ((i.val : Nat) : Int) 15 = ((i.val % 16 : Nat) : Int) := by decide +kernel
  exact this ⟨b, h⟩

theorem IsB.later {B b : Nat} {bs : List Value} {w w' : World} (h : Lib.BuilderAt 72 5 B b (.pointer (some ⟨b, 0, none⟩)) bs w) (hb : Below w.heap.size w w') : Lib.BuilderAt 72 5 B b (.pointer (some ⟨b, 0, none⟩)) bs w' := by
  obtain ⟨h1, v, h2, h3, h4⟩ := h
  exact ⟨h1, v, by rw [hb.block b (Array.getElem?_eq_some_iff.1 h2).1]; exact h2, own_later h3 hb, h4⟩

theorem Tryd.size25' : (Tryd.prog.info? 25).map (·.size) = some 32 := by kernel_rfl
theorem Tryd.size5 : (Tryd.prog.info? 5).map (·.size) = some 1 := by kernel_rfl

set_option maxHeartbeats 1600000 in
set_option maxRecDepth 100000 in
theorem text_word (d : List Nat) (w : World) (hl : d.length = 32) (hd : ∀ j, d.getD j 0 < 256) :
    Calls Tryd.prog 21 #[.agg (arr .u8 d)] w fun e w' => e = .returned (.string ⟨(bytesU (textN d)).toArray⟩) ∧ Below w.heap.size w w' := by
  have b1 := bel_alloc w (.cells (arr .u8 d) 25)
  have e1 := heap_new w (.cells (arr .u8 d) 25)
  have s1 : (w.alloc (.cells (arr .u8 d) 25)).heap.size = w.heap.size + 1 := by simp
  have b2 := bel_alloc (w.alloc (.cells (arr .u8 d) 25)) (.cells #[.pointer none, .slice none 0 0] 72)
  have i2 : Lib.IsBuilder 72 5 (w.heap.size + 1) (w.heap.size + 1) [] ((w.alloc (.cells (arr .u8 d) 25)).alloc (.cells #[.pointer none, .slice none 0 0] 72)) := by
    have := Lib.fresh_isBuilder 72 5 (w.alloc (.cells (arr .u8 d) 25))
    rw [s1] at this; exact this
  have e2 : ((w.alloc (.cells (arr .u8 d) 25)).alloc (.cells #[.pointer none, .slice none 0 0] 72)).heap[w.heap.size]? = some (.cells (arr .u8 d) 25 (0, 0)) := by rw [b2.block _ (by omega)]; exact e1
  have hasz : (Tryd.prog.info? 25).map (·.size) = some (arr .u8 d).size := by rw [arr_size, hl]; exact Tryd.size25'
  have s2 : ((w.alloc (.cells (arr .u8 d) 25)).alloc (.cells #[.pointer none, .slice none 0 0] 72)).heap.size = w.heap.size + 1 + 1 := by simp
  have HB2 := hid (Bn b1 b2)
  have HI2 := hid i2
  have HL := hid hl
  have HD := hid hd
  clear b1 e1 s1 b2 i2 hl hd
  go_enter Tryd.func21, Tryd.ntmps21
  go_wp2_with (refine wpList_load_row rfl 25 _ rfl w.heap.size rfl 25 (arr .u8 d) (0, 0) _ e2 Tryd.underlying25 rfl hasz ?_)
  generalize (w.alloc (.cells (arr .u8 d) 25)).alloc (.cells #[.pointer none, .slice none 0 0] 72) = w2 at *
  clear e2 hasz
  go_loopw [7] (fun i wr => ∃ k : Nat, k ≤ 32 ∧ i = .int .i64 k ∧ Lib.IsBuilder 72 5 (w.heap.size + 1) (w.heap.size + 1) (V (textN (d.take k))) wr ∧ Below w.heap.size w wr ∧ w.heap.size + 1 + 1 ≤ wr.heap.size) (fun i _ => 32 - (intOf i).toNat)
  case atStart => exact ⟨0, by omega, rfl, HI2.out, HB2.out, by omega⟩
  case round =>
    obtain ⟨k, hk, rfl, hI, hbel, hsz⟩ := hrel
    by_cases hlt : k < 32
    · have hk32 : (k : Int) < 32 := by omega
      have d1 := fun W : World => run_index_arr (P := Tryd.prog) Tryd.underlying25 Tryd.underlying5 Tryd.size5 d HL.out k hlt W
      have hx := HD.out k
      have HT := hid (textN_take d k (by rw [HL.out]; exact hlt))
      have hlen : (V (textN (d.take k))).length ≤ 64 := by rw [V_length, textN_length, List.length_take]; omega
      generalize d.getD k 0 = x at *
      have G1 := hid (dig_get (x / 16))
      have G2 := hid (dig_get (x % 16))
      have ha := and15 x hx
      rw [Int.natCast_emod] at ha
      have HA1 := hid (write_byte (w.heap.size + 1) (w.heap.size + 1) _ ((dig (x / 16) : Nat) : Int) wr hI (by omega) (by omega))
      have HA2 := hid (fun (W : World) h hs => write_byte (w.heap.size + 1) (w.heap.size + 1) (V (textN (d.take k)) ++ [.int .u8 ((dig (x / 16) : Nat) : Int)]) ((dig (x % 16) : Nat) : Int) W (Or.inr h) (by rw [List.length_append, List.length_singleton]; omega) hs)
      rw [V_snoc, V_snoc, ← HT.out] at HA2
      rw [V_snoc] at HA1
      generalize dig (x / 16) = p at *
      generalize dig (x % 16) = q at *
      clear hI HT hlen
      go_wp2_with fail
      rw [G1.out]
      go_at_call 38
      refine HA1.out.mono ?_
      rintro _ w3 ⟨rfl, h3, hb3⟩
      have hs3 := hb3.size
      go_wp2_with fail
      rw [G2.out]
      go_at_call 38
      refine (HA2.out w3 h3 (by omega)).mono ?_
      rintro _ w4 ⟨rfl, h4, hb4⟩
      have hs4 := hb4.size
      have hb5 : Below w.heap.size w w4 := hbel.trans ((hb3.trans hb4).mono (by omega))
      clear h3 hb3 hb4 HA1 HA2
      go_wp2
      exact ⟨⟨k + 1, by omega, by go_num, Or.inr h4, hb5, by omega⟩, by simp [intOf]; omega⟩
    · obtain rfl : k = 32 := by omega
      rw [List.take_of_length_le (by rw [HL.out]; exact Nat.le_refl _), ← cellsU _ (textN_lt d)] at hI
      have hne : bytesU (textN d) ≠ [] := by
        intro h
        have := congrArg List.length h
        rw [bytesU, List.length_map, textN_length, HL.out] at this
        cases this
      have HS := hid (Tryd.Builder_String (w.heap.size + 1) (w.heap.size + 1) (bytesU (textN d)) wr hI hne)
      clear hI hne
      go_wp2_with fail
      go_at_call 39
      refine HS.out.mono ?_
      rintro _ w5 ⟨rfl, hb5⟩
      have hb6 : Below w.heap.size w w5 := hbel.trans (hb5.mono (by omega))
      go_wp2
      go_ret
      exact ⟨rfl, hb6⟩
end Go.Proofs.YtkehhlbbnlnbcaaDoor
