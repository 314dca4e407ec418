/-
  Four bytes as a map's key; what lz's map of places says.
-/
import Derived.Test.YtgdlmhgjhmcilabAhead
import Derived.Maps.OwnIn
import Derived.Maps.Views
import Derived.DeepKeys4
import Derived.WideKeyPair
namespace Go.Proofs.Ytgdlmhgjhmcilab
open Go.RowKit Go.Shelf Lz Go.WideMaps

theorem Try.cells53 : Try.prog.cellsOf 53 = 4 := by kernel_rfl
theorem Try.row53 : (53 : TypeId) < Try.prog.types.size := of_decide_eq_true (by kernel_rfl)
theorem Try.wide53 : (match Try.prog.underlying 53 with | some (.array _ _) | some (.struct _) => true | _ => false) = true := by rw [Try.underlying53]
theorem Try.law53 : KeyLaw Try.prog 53 := deep_law_laid Try.laidOut (m := 2) (by omega) Try.row53 (by kernel_rfl) Try.wide53
theorem Try.keyed53 : Maps.Keyed Try.prog 53 := Maps.Keyed.of_law Try.law53
theorem Try.arr53 : ArrKey Try.prog 53 5 4 := ⟨Try.underlying53, by kernel_rfl, Try.cells5, Try.cells53⟩

def four (a b c d : Int) : Value := .agg #[.int .u8 a, .int .u8 b, .int .u8 c, .int .u8 d]
def fourL (a b c d : Int) : Lit := .string (keyBytes [.int .u8 a, .int .u8 b, .int .u8 c, .int .u8 d])

theorem keyOf_four {a b c d : Int} (wa : (Lit.int .u8 a).wf = true) (wb : (Lit.int .u8 b).wf = true) (wc : (Lit.int .u8 c).wf = true) (wd : (Lit.int .u8 d).wf = true) : keyOf Try.prog 53 (four a b c d) = some (fourL a b c d) := by
  have hkt := Try.arr53.keyType ⟨73, by kernel_rfl⟩
  have hm : Try.prog.types.size = 73 + 1 := by kernel_rfl
  unfold keyOf four
  simp only [Try.arr53.hu]
  rw [if_pos (by simp [hkt, Value.formed, Try.arr53.hu, Try.arr53.size]), hm]
  unfold Program.keyLits
  simp only [Try.arr53.hu, Value.cells]
  rw [if_pos (by rw [Try.arr53.size]; rfl), show List.range 4 = [0, 1, 2, 3] from rfl, List.mapM_cons, List.mapM_cons, List.mapM_cons, List.mapM_cons, List.mapM_nil]
  simp [Try.arr53.one, Program.keyLits, Try.underlying5, wa, wb, wc, wd, fourL]

theorem keyBytes_u8 {a : Int} (h : 0 ≤ a ∧ a ≤ 255) : Lit.keyBytes (.int .u8 a) = [UInt8.ofNat a.toNat] := by
  show [UInt8.ofNat ((a % 2 ^ 8).toNat % 256)] = _
  have h2 : a % 2 ^ 8 = a := Int.emod_eq_of_lt h.1 (by omega)
  rw [h2, Nat.mod_eq_of_lt (by omega)]

theorem byte_inj {a b : Int} (ha : 0 ≤ a ∧ a ≤ 255) (hb : 0 ≤ b ∧ b ≤ 255) (h : UInt8.ofNat a.toNat = UInt8.ofNat b.toNat) : a = b := by
  have := congrArg UInt8.toNat h
  simp only [UInt8.toNat_ofNat'] at this
  omega

theorem fourL_inj {a b c d a' b' c' d' : Int} (ha : 0 ≤ a ∧ a ≤ 255) (hb : 0 ≤ b ∧ b ≤ 255) (hc : 0 ≤ c ∧ c ≤ 255) (hd : 0 ≤ d ∧ d ≤ 255) (ha' : 0 ≤ a' ∧ a' ≤ 255) (hb' : 0 ≤ b' ∧ b' ≤ 255) (hc' : 0 ≤ c' ∧ c' ≤ 255) (hd' : 0 ≤ d' ∧ d' ≤ 255)
    (h : fourL a b c d = fourL a' b' c' d') : a = a' ∧ b = b' ∧ c = c' ∧ d = d' := by
  unfold fourL keyBytes at h
  simp only [List.flatMap_cons, List.flatMap_nil, keyBytes_u8 ha, keyBytes_u8 hb, keyBytes_u8 hc, keyBytes_u8 hd, keyBytes_u8 ha', keyBytes_u8 hb', keyBytes_u8 hc', keyBytes_u8 hd', Lit.string.injEq, List.cons_append, List.nil_append, List.cons.injEq] at h
  exact ⟨byte_inj ha ha' h.1, byte_inj hb hb' h.2.1, byte_inj hc hc' h.2.2.1, byte_inj hd hd' h.2.2.2.1⟩

/-- The four bytes at a place, as a value and as a key. -/
def keyV (bs : List Int) (p : Nat) : Value := four (bs.getD p 0) (bs.getD (p + 1) 0) (bs.getD (p + 2) 0) (bs.getD (p + 3) 0)
def keyL (bs : List Int) (p : Nat) : Lit := fourL (bs.getD p 0) (bs.getD (p + 1) 0) (bs.getD (p + 2) 0) (bs.getD (p + 3) 0)
def Bytes8 (bs : List Int) : Prop := ∀ j, (Lit.int .u8 (bs.getD j 0)).wf = true
theorem key_of {bs : List Int} (h : Bytes8 bs) (p : Nat) : keyOf Try.prog 53 (keyV bs p) = some (keyL bs p) := keyOf_four (h _) (h _) (h _) (h _)
theorem keyL_same {bs : List Int} (h : Bytes8 bs) (p q : Nat) : (keyL bs p = keyL bs q) ↔ same4 bs p q = true := by
  unfold same4
  simp only [Bool.and_eq_true, beq_iff_eq]
  constructor
  · intro e
    exact fourL_inj (wf_u8 (h _)) (wf_u8 (h _)) (wf_u8 (h _)) (wf_u8 (h _)) (wf_u8 (h _)) (wf_u8 (h _)) (wf_u8 (h _)) (wf_u8 (h _)) e
  · rintro ⟨e0, e1, e2, e3⟩
    unfold keyL
    rw [e0, e1, e2, e3]
theorem keyL_is (bs : List Int) (p : Nat) : WideAt.IsKeyLit (keyL bs p) := trivial

theorem same4_eq {bs : List Int} {p q : Nat} (h : same4 bs p q = true) (x : Nat) : same4 bs x p = same4 bs x q := by
  unfold same4 at *
  simp only [Bool.and_eq_true, beq_iff_eq] at h
  obtain ⟨e0, e1, e2, e3⟩ := h
  rw [e0, e1, e2, e3]
theorem nxt_eq {bs : List Int} {p q : Nat} (h : same4 bs p q = true) : ∀ m, nxt bs p m = nxt bs q m
  | 0 => rfl
  | m + 1 => by unfold nxt; rw [same4_eq h m, nxt_eq h m]

/-- The map of places: the last place ahead of m of each four bytes. -/
def Mp (W : World) (b : Nat) (bs : List Int) (m : Nat) : Prop :=
  ∃ D : DataW Unit, W.ownsMap Try.prog 53 (plainElem Try.prog 3) b m D ∧ ∀ q, m ≤ q → q + 4 ≤ bs.length → D.atKey (keyL bs q) (.lit (.int .i64 0)) = .lit (.int .i64 ((nxt bs q m : Nat) : Int))

theorem Mp.new (w : World) (bs : List Int) : Mp (w.alloc (.map #[] 0)) w.heap.size bs 0 :=
  ⟨.map [], World.ownsMap_made w _ _ _, fun _ _ _ => rfl⟩
theorem Mp.kept {W W' : World} {b m : Nat} {bs : List Int} {row : Option Nat} (h : Mp W b bs m) (hg : W.grownBy W' row) (hne : some b ≠ row) : Mp W' b bs m := by
  obtain ⟨D, hD, hq⟩ := h
  exact ⟨D, hD.kept hg hne, hq⟩
theorem Mp.below {W W' : World} {b m n : Nat} {bs : List Int} (h : Mp W b bs m) (hb : Below n W W') (hn : b < n) : Mp W' b bs m := by
  obtain ⟨D, ⟨es, clock, hh, F, hs, hD⟩, hq⟩ := h
  exact ⟨D, ⟨es, clock, (hb.block b hn).trans hh, F, hs, hD⟩, hq⟩
theorem Mp.look {W : World} {b m : Nat} {bs : List Int} (h : Mp W b bs m) (h8 : Bytes8 bs) (q : Nat) (hq : m ≤ q) (hl : q + 4 ≤ bs.length) : (Instr.lookup 46 (.map (some b)) (keyV bs q) false).run Try.prog W = .ok (.int .i64 ((nxt bs q m : Nat) : Int)) W := by
  obtain ⟨D, hD, hat⟩ := h
  obtain ⟨c, hrun, hc, _⟩ := hD.lookup_int Try.keyed53 Try.underlying46 Try.underlying3 (Try.zeroValue3 _) (key_of h8 q)
  rw [hat q hq hl] at hc
  simp only [DataW.lit.injEq, Lit.int.injEq, true_and] at hc
  rw [hc]
  exact hrun
theorem Mp.put {W : World} {b m : Nat} {bs : List Int} (h : Mp W b bs m) (h8 : Bytes8 bs) (hm : m < 70000) : ∃ W', (Instr.mapUpdate 46 (.map (some b)) (keyV bs m) (.int .i64 (((m + 1 : Nat)) : Int))).run Try.prog W = .ok () W' ∧ Mp W' b bs (m + 1) ∧ W.grownBy W' (some b) := by
  obtain ⟨D, hD, hat⟩ := h
  obtain ⟨W', hrun, hown, hg⟩ := hD.update Try.keyed53 Try.underlying46 (by unfold maxLen; omega) (key_of h8 m) (plainElem_int Try.underlying3 (a := ((m + 1 : Nat) : Int)) (wf_mk_i64 (by omega) (by omega)))
  refine ⟨W', hrun, ⟨_, hown, fun q hq hl => ?_⟩, hg⟩
  have hmap : Maps.IsMap D := by
    obtain ⟨_, _, _, _, _, rfl⟩ := hD
    exact ⟨_, rfl⟩
  by_cases hs : same4 bs m q = true
  · rw [← (keyL_same h8 m q).2 hs, Maps.atKey_put_same hmap (keyL_is bs m)]
    unfold nxt
    rw [if_pos hs]
  · rw [Maps.atKey_put_other (fun e => hs ((keyL_same h8 m q).1 e.symm)), hat q (by omega) hl]
    show _ = DataW.lit (.int .i64 (((if same4 bs m q = true then m + 1 else nxt bs q m) : Nat) : Int))
    rw [if_neg hs]
end Go.Proofs.Ytgdlmhgjhmcilab
