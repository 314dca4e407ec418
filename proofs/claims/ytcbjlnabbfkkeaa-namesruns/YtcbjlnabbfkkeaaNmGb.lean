/-
  The contract of Digests (25). Digests sorted by their bytes: bytes.Compare (50), Digests' closure (49), slices.SortFunc (66), slices.SortedFunc (47). slices.AppendSeq (83) and slices.Collect (65) of digests, over any iterator that tells digests. maps.Keys (48) of a set of digests, and the iterator that it hands back (67). Digests as keys of a map; a map that is a set of digests; digests held against each other byte by byte.
-/
import Derived.Test.YtcbjlnabbfkkeaaNmFb
import Derived.WideKeyArr
import Derived.Lib.BytesEntry
import Derived.Maps.OwnSet
import Derived.Sort.LotA
import Derived.Sort.MapsRangeIn
import Derived.LoopIn
import Derived.OrdersIn
import Derived.Maps.OwnIn
import Derived.Test.YtcbjlnabbfkkeaaNmLc
namespace Go.Proofs.Ytcbjlnabbfkkeaa
open Go.ChangeShapes Go.WideShapes Go.ChangeAt Go.RowKit Go.Deep Go.Lib

theorem Try.arr32 : Go.WideMaps.ArrKey Try.prog 32 5 32 := ⟨Try.underlying32, by kernel_rfl, Try.cells5, by kernel_rfl⟩
theorem Try.keyed32 : Maps.Keyed Try.prog 32 := Maps.Keyed.of_law Try.arr32.law
theorem Try.some_types : ∃ m, Try.prog.types.size = m + 1 := Nat.exists_eq_succ_of_ne_zero (of_decide_eq_true (by kernel_rfl))
/-- A digest. -/
structure Dig (D : List Int) : Prop where
  len : D.length = 32
  u8 : ∀ j, (Lit.int .u8 (D.getD j 0)).wf = true
theorem Dig.mem {D : List Int} (h : Dig D) : ∀ x ∈ D, 0 ≤ x ∧ x ≤ 255 := fun x hx => by
  obtain ⟨j, hj, rfl⟩ := List.getElem_of_mem hx
  have := h.u8 j
  rw [List.getD_eq_getElem?_getD, List.getElem?_eq_getElem hj] at this
  exact wf_u8 this
theorem PcOk.dig {x : Pc} (h : PcOk x) : Dig x.1 := ⟨h.len, h.u8⟩
def kD (D : List Int) : Lit := .string (keyBytes (D.map (Lit.int .u8)))
theorem kD_is (D : List Int) : WideAt.IsKeyLit (kD D) := trivial
theorem mapM_all {α β : Type} (f : α → Option β) (g : α → β) : ∀ l : List α, (∀ x ∈ l, f x = some (g x)) → l.mapM f = some (l.map g)
  | [], _ => rfl
  | x :: l, h => by
    rw [List.mapM_cons, h x (by simp), mapM_all f g l (fun y hy => h y (by simp [hy]))]
    rfl
theorem flat_ones {α β : Type} (g : α → β) : ∀ l : List α, (l.map fun i => [g i]).flatten = l.map g
  | [] => rfl
  | x :: l => by simp [flat_ones g l]
theorem range_getD (D : List Int) : (List.range D.length).map (fun i => D.getD i 0) = D := by
  apply List.ext_getElem
  · simp
  · intro i h1 h2
    simp [h2]
theorem dig_cells {D : List Int} {i : Nat} (hi : i < D.length) : ((dgC D).drop (i * 1)).take 1 = [.int .u8 (D.getD i 0)] := by
  have hl : i < (dgC D).length := by unfold dgC; simpa using hi
  rw [Nat.mul_one, List.drop_eq_getElem_cons hl]
  simp [dgC, List.getD, List.getElem?_eq_getElem hi]
theorem key_dig {D : List Int} (h : Dig D) : keyOf Try.prog 32 (.agg (dgC D).toArray) = some (kD D) := by
  have hkt := Try.arr32.keyType Try.some_types
  obtain ⟨m, hm⟩ := Try.some_types
  have hl : (dgC D).length = 32 := by unfold dgC; rw [List.length_map]; exact h.len
  unfold keyOf
  simp only [Try.arr32.hu]
  rw [if_pos (by simp [hkt, Value.formed, Try.arr32.hu, Try.arr32.size, hl]), hm]
  unfold Program.keyLits
  simp only [Try.arr32.hu, Value.cells]
  rw [if_pos (by rw [Try.arr32.size]; simpa using hl), Try.cells5, mapM_all _ (fun i => [Lit.int .u8 (D.getD i 0)])]
  · rw [Option.map_some, Option.map_some, flat_ones, ← h.len]
    have e : (List.range D.length).map (fun i => Lit.int .u8 (D.getD i 0)) = D.map (Lit.int .u8) := by
      have := congrArg (List.map (Lit.int .u8)) (range_getD D)
      rwa [List.map_map] at this
    rw [e]
    rfl
  · intro i hi
    have hi : i < D.length := by rw [h.len]; exact List.mem_range.1 hi
    rw [dig_cells hi]
    unfold Program.keyLits
    have hw := h.u8 i
    rw [List.getD_eq_getElem?_getD] at hw
    simp [Try.underlying5, hw]
theorem keyB_u8 {a : Int} (h : 0 ≤ a ∧ a ≤ 255) : Lit.keyBytes (.int .u8 a) = [UInt8.ofNat a.toNat] := by
  show [UInt8.ofNat ((a % 2 ^ 8).toNat % 256)] = _
  have h2 : a % 2 ^ 8 = a := Int.emod_eq_of_lt h.1 (by omega)
  rw [h2, Nat.mod_eq_of_lt (by omega)]
theorem keyB_all : ∀ D : List Int, (∀ x ∈ D, 0 ≤ x ∧ x ≤ 255) → keyBytes (D.map (Lit.int .u8)) = Lib.bytesOf D
  | [], _ => rfl
  | x :: D, h => by
    have ih := keyB_all D (fun y hy => h y (List.mem_cons_of_mem _ hy))
    unfold keyBytes at ih ⊢
    rw [List.map_cons, List.flatMap_cons, ih, keyB_u8 (h x (List.mem_cons_self ..))]
    rfl
theorem byte_lt {a b : Int} (ha : 0 ≤ a ∧ a ≤ 255) (hb : 0 ≤ b ∧ b ≤ 255) : UInt8.ofNat a.toNat < UInt8.ofNat b.toNat ↔ a < b := by
  rw [UInt8.lt_iff_toNat_lt, UInt8.toNat_ofNat', UInt8.toNat_ofNat']
  omega
theorem byte_one {a b : Int} (ha : 0 ≤ a ∧ a ≤ 255) (hb : 0 ≤ b ∧ b ≤ 255) (h : UInt8.ofNat a.toNat = UInt8.ofNat b.toNat) : a = b := by
  have := congrArg UInt8.toNat h
  rw [UInt8.toNat_ofNat', UInt8.toNat_ofNat'] at this
  omega
theorem bytes_inj : ∀ D E : List Int, (∀ x ∈ D, 0 ≤ x ∧ x ≤ 255) → (∀ x ∈ E, 0 ≤ x ∧ x ≤ 255) → Lib.bytesOf D = Lib.bytesOf E → D = E
  | [], [], _, _, _ => rfl
  | [], _ :: _, _, _, h => by simp [Lib.bytesOf] at h
  | _ :: _, [], _, _, h => by simp [Lib.bytesOf] at h
  | x :: D, y :: E, hd, he, h => by
    simp only [Lib.bytesOf, List.map_cons, List.cons.injEq] at h
    rw [byte_one (hd x (List.mem_cons_self ..)) (he y (List.mem_cons_self ..)) h.1, bytes_inj D E (fun z hz => hd z (List.mem_cons_of_mem _ hz)) (fun z hz => he z (List.mem_cons_of_mem _ hz)) h.2]
theorem kD_inj {D E : List Int} (hd : Dig D) (he : Dig E) (h : kD D = kD E) : D = E := by
  unfold kD at h
  rw [keyB_all D hd.mem, keyB_all E he.mem] at h
  injection h with h
  exact bytes_inj D E hd.mem he.mem h
/-- What a map that is a set of digests reads as. -/
structure Sd (S : List (List Int)) (D : DataW Value) : Prop where
  sound : ∀ kl, Maps.has D kl = true → ∃ x ∈ S, kl = kD x
  all : ∀ x ∈ S, Maps.has D (kD x) = true
  dig : ∀ x ∈ S, Dig x
theorem Sd.nil : Sd [] (.map []) := ⟨(fun _ h => by cases h), (fun _ h => by cases h), (fun _ h => by cases h)⟩
theorem Sd.put {S : List (List Int)} {D : DataW Value} (h : Sd S D) (hm : Maps.IsMap D) {x : List Int} (hx : Dig x) (d : DataW Value) : Sd (S ++ [x]) (D.put (kD x) d) := by
  refine ⟨fun kl hk => ?_, fun y hy => ?_, fun y hy => ?_⟩
  · by_cases e : kl = kD x
    · exact ⟨x, by simp, e⟩
    · rw [Maps.has_put_other e] at hk
      obtain ⟨y, h1, h2⟩ := h.sound kl hk
      exact ⟨y, by simp [h1], h2⟩
  · by_cases e : kD y = kD x
    · rw [e]
      exact Maps.has_put_same hm (kD_is x) d
    · rw [Maps.has_put_other e]
      rcases List.mem_append.1 hy with hy | hy
      · exact h.all y hy
      · rw [List.mem_singleton.1 hy] at e
        exact absurd rfl e
  · rcases List.mem_append.1 hy with hy | hy
    · exact h.dig y hy
    · rw [List.mem_singleton.1 hy]; exact hx
/-- Bytes held against each other. -/
theorem compare_lt : ∀ a b : List UInt8, Lib.compareBytes a b < 0 ↔ a < b
  | [], [] => by simp [Lib.compareBytes]
  | [], _ :: _ => by simp [Lib.compareBytes]
  | _ :: _, [] => by simp [Lib.compareBytes]
  | x :: a, y :: b => by
    rw [Lib.compareBytes, List.cons_lt_cons_iff]
    by_cases h1 : x < y
    · rw [if_pos h1]
      simp [h1]
    · rw [if_neg h1]
      by_cases h2 : y < x
      · rw [if_pos h2]
        have hne : ¬ x = y := fun e => by subst e; exact UInt8.lt_irrefl _ h2
        simp [h1, hne]
      · rw [if_neg h2, compare_lt a b]
        have he : x = y := UInt8.le_antisymm (UInt8.not_lt.1 h2) (UInt8.not_lt.1 h1)
        simp [he, UInt8.lt_irrefl]
theorem ltI_bytes : ∀ D E : List Int, (∀ x ∈ D, 0 ≤ x ∧ x ≤ 255) → (∀ x ∈ E, 0 ≤ x ∧ x ≤ 255) → D.length = E.length → (ltI D E = true ↔ Lib.bytesOf D < Lib.bytesOf E)
  | [], [], _, _, _ => by simp [ltI, Lib.bytesOf]
  | [], _ :: _, _, _, h => by simp at h
  | _ :: _, [], _, _, h => by simp at h
  | x :: D, y :: E, hd, he, h => by
    have hx := hd x (List.mem_cons_self ..)
    have hy := he y (List.mem_cons_self ..)
    have ih := ltI_bytes D E (fun z hz => hd z (List.mem_cons_of_mem _ hz)) (fun z hz => he z (List.mem_cons_of_mem _ hz)) (by simpa using h)
    have e1 : Lib.bytesOf (x :: D) = UInt8.ofNat x.toNat :: Lib.bytesOf D := rfl
    have e2 : Lib.bytesOf (y :: E) = UInt8.ofNat y.toNat :: Lib.bytesOf E := rfl
    rw [ltI, e1, e2, List.cons_lt_cons_iff, byte_lt hx hy]
    by_cases e : x = y
    · subst e
      rw [if_pos rfl, ih]
      simp
    · rw [if_neg e, decide_eq_true_eq]
      have : ¬ UInt8.ofNat x.toNat = UInt8.ofNat y.toNat := fun h => e (byte_one hx hy h)
      simp [this]
/-- The model's Compare at two slices whose cells are known. -/
theorem run_compareSlices {P : Program} (w : World) (b o n c b' o' n' c' : Nat) (xs ys : List Int) (hx : xs.length = n) (hy : ys.length = n') (h1 : w.rangeAt b o (xs.map (Value.int .u8))) (h2 : w.rangeAt b' o' (ys.map (Value.int .u8))) :
    (Extern.BytealgCompare.compare #[.slice (some ⟨b, o, none⟩) n c, .slice (some ⟨b', o', none⟩) n' c']).run P w = .ok (.int .i64 (Lib.compareBytes (Lib.bytesOf xs) (Lib.bytesOf ys))) w := by
  have hl : ∀ (b o : Nat) (xs : List Int), w.rangeAt b o (xs.map (Value.int .u8)) → (Extern.Bytes.loadBytes ⟨b, o, none⟩ xs.length .empty).run P w = .ok ⟨(Lib.bytesOf xs).toArray⟩ w := fun b o xs hr => by
    have := run_loadBytesX (P := P) w xs ⟨b, o, none⟩ .empty (fun j x hj => by
      rw [add_plain]
      exact hr j _ (by rw [List.getElem?_map, hj]; rfl))
    have he : (⟨ByteArray.empty.data ++ (Lib.bytesOf xs).toArray⟩ : ByteArray) = ⟨(Lib.bytesOf xs).toArray⟩ := by
      apply ByteArray.ext
      show (#[] : Array UInt8) ++ (Lib.bytesOf xs).toArray = (Lib.bytesOf xs).toArray
      simp
    rwa [he] at this
  subst hx
  subst hy
  change Sem.run P (do pure (goInt (Extern.BytealgCompare.cmp (← Extern.Bytes.bytesOf (.slice (some ⟨b, o, none⟩) xs.length c)) (← Extern.Bytes.bytesOf (.slice (some ⟨b', o', none⟩) ys.length c'))))) w = _
  simp only [Extern.Bytes.bytesOf, Sem.run_bind, Sem.run_pure, hl b o xs h1, hl b' o' ys h2, Result.andThen]
  rw [cmp_eq]
  rfl
end Go.Proofs.Ytcbjlnabbfkkeaa
namespace Go.Proofs.Ytcbjlnabbfkkeaa
open Go.ChangeShapes Go.WideShapes Go.ChangeAt Go.RowKit Go.Deep Go.Lib

section
variable {F : Fence} {n : Nat} {P : Program} {w : World} {ops : Array Oper} {rest : List Oper} {o : Oper} {a : Act} {Q : Exit → Act → World → Prop}
/-- An operation in a round that tells a value. -/
theorem in_value (hg : o.guard = none) (v : Value) (w' : World) (hd : ∀ c, o.op ≠ .defer c) (hab : o.about P w a.eval = none) (hrun : (execOp a.eval o).run P w = .ok (.value v) w')
    (h : wpListIn F n P ops Q rest (a.put o.dst v) w') : wpListIn F n P ops Q (o :: rest) a w := by
  refine wpListIn_plain hg fun K' hK' => ?_
  unfold Oper.wpIn
  refine ⟨(fun f hf => by rw [hab] at hf; cases hf), ?_⟩
  rw [Oper.semAt_plain F _ _ hd, hrun]
  exact hK' _ _ h
theorem in_skip (hg : o.guard = none) (w' : World) (hd : ∀ c, o.op ≠ .defer c) (hab : o.about P w a.eval = none) (hrun : (execOp a.eval o).run P w = .ok .skip w')
    (h : wpListIn F n P ops Q rest (a.put o.dst undef) w') : wpListIn F n P ops Q (o :: rest) a w := by
  refine wpListIn_plain hg fun K' hK' => ?_
  unfold Oper.wpIn
  refine ⟨(fun f hf => by rw [hab] at hf; cases hf), ?_⟩
  rw [Oper.semAt_plain F _ _ hd, hrun]
  exact hK' _ _ h
theorem wpListIn_alloc_W (hgd : o.guard = none) (ty : TypeId) (ho : o.op = .alloc ty) (d : Option Tmp) (hd : o.dst = d) (cs : Array Value)
    (hz : ∀ w, (zeroValue ty).run P w = .ok (.agg cs) w) (N : Nat) (hN : N = w.heap.size)
    (h : ∀ W', Hid (W'.heap[N]? = some (.cells cs ty)) → Hid (Below N w W') → Hid (W'.heap.size = N + 1) → wpListIn F n P ops Q rest (a.put d (.pointer (some ⟨N, 0, none⟩))) W') : wpListIn F n P ops Q (o :: rest) a w := by
  subst hN
  subst hd
  refine in_value hgd _ _ (fun c e => by rw [ho] at e; cases e) (by simp [Oper.about, ho]) ?_ (h (w.alloc (.cells cs ty)) (heap_alc w _) (bel_alc w _) (by show _ = _; simp))
  unfold execOp
  simp only [ho, Instr.alloc, Sem.run_bind, hz, Result.andThen_ok, newVar]
  rfl
theorem wpListIn_store_W (hgd : o.guard = none) (ty : TypeId) (x y : Operand) (ho : o.op = .store ty x y) (hd : o.dst = none)
    (g : Nat) (cells : Array Value) (hx : a.eval x = .pointer (some ⟨g, 0, none⟩)) (hy : a.eval y = .agg cells) (t : TypeId) (old : Array Value) (hg : w.heap[g]? = some (.cells old t (0, 0))) (hi : (P.info? ty).map (·.size) = some cells.size)
    (hold : old.size = cells.size) (h1 : cells.all (·.oneCell') = true)
    (h : ∀ W', Hid (W'.heap[g]? = some (.cells cells t)) → Hid (w.grownBy W' (some g)) → Hid (W'.heap.size = w.heap.size) → wpListIn F n P ops Q rest a W') : wpListIn F n P ops Q (o :: rest) a w := by
  refine in_skip hgd (w.setRow g cells) (fun c e => by rw [ho] at e; cases e) (by simp [Oper.about, ho]) ?_ (by
    rw [hd]
    refine h _ ?_ ?_ ?_
    · exact setRow_heap _ _ old _ t (0, 0) hg
    · exact ⟨rfl, rfl, rfl, by rw [setRow_size]; exact Nat.le_refl _, fun k _ hk => other_setRow w g cells k (fun e => hk (by rw [e]))⟩
    · exact setRow_size ..)
  unfold execOp
  simp only [ho, hx, hy, Instr.storeAt, Instr.sureAddr, Sem.run_bind, Sem.run_pure, Result.andThen_ok, run_storeVar_row w g t ty old cells hg hi hold h1]
theorem wpListIn_load_P (hgd : o.guard = none) (ty : TypeId) (x : Operand) (ho : o.op = .load ty x) (b off : Nat) (hx : a.eval x = .pointer (some ⟨b, off, none⟩)) (cs : List Value) (d : TypeDesc) (hc : w.rangeAt b off cs)
    (hu : P.underlying ty = some d) (hd : d.isRow = true) (hi : (P.info? ty).map (·.size) = some cs.length) (h : wpListIn F n P ops Q rest (a.put o.dst (.agg cs.toArray)) w) : wpListIn F n P ops Q (o :: rest) a w := by
  refine in_value hgd _ _ (fun c e => by rw [ho] at e; cases e) (by simp [Oper.about, ho]) ?_ h
  unfold execOp
  simp only [ho, hx, Instr.loadAt, Instr.sureAddr, Sem.run_bind, Sem.run_pure, Result.andThen_ok, run_loadVar_mid w b off ty cs d hc hu hd hi]
end
theorem mkeys_word (g : Option Nat) (w : World) : Calls Try.prog 48 #[.map g] w fun e w' => e = .returned (.func (.func 67) #[] #[.pointer (some ⟨w.heap.size, 0, none⟩)]) ∧ w' = w.alloc (.cells #[.map g] 98) := by
  go_enter Try.func48, Try.ntmps48
  go_wp2
  go_ret
  exact ⟨rfl, rfl⟩
abbrev Dg := { x : List Int // Dig x }
def encD (x : Dg) : Array Value := #[.agg (dgC x.1).toArray]
def valD (l : List Dg) : List (List Int) := l.map Subtype.val
theorem valD_snoc (l : List Dg) (x : Dg) : valD (l ++ [x]) = valD l ++ [x.1] := by simp [valD]
theorem valD_dig {l : List Dg} : ∀ x ∈ valD l, Dig x := fun x hx => by
  obtain ⟨y, _, rfl⟩ := List.mem_map.1 hx
  exact y.2
/-- What has come of a set. -/
structure Got (S : List (List Int)) (left : Lit → Bool) (l : List (List Int)) : Prop where
  apart : l.Nodup
  sub : ∀ x ∈ l, x ∈ S
  got : ∀ x ∈ S, x ∈ l ↔ left (kD x) = false
theorem Got.zero {S : List (List Int)} {D : DataW Value} (h : Sd S D) : Got S (Maps.has D) [] :=
  ⟨List.nodup_nil, (fun _ h => by cases h), fun x hx => by simp [h.all x hx]⟩
theorem Got.step {S : List (List Int)} {left : Lit → Bool} {l : List (List Int)} (h : Got S left l) (hS : ∀ x ∈ S, Dig x) {x : List Int} (hx : x ∈ S) (hl : left (kD x) = true) : Got S (fun z => left z && !z.sameKey (kD x)) (l ++ [x]) := by
  refine ⟨?_, fun y hy => ?_, fun y hy => ?_⟩
  · refine List.nodup_append.2 ⟨h.apart, List.pairwise_singleton .., fun a ha b hb => ?_⟩
    rw [List.mem_singleton.1 hb]
    intro e
    subst e
    rw [(h.got a hx).1 ha] at hl
    cases hl
  · rcases List.mem_append.1 hy with hy | hy
    · exact h.sub y hy
    · rw [List.mem_singleton.1 hy]; exact hx
  · by_cases e : y = x
    · subst e
      simp [WideAt.sameKey_self (kD_is _)]
    · have hk : (kD y).sameKey (kD x) = false := Maps.sameKey_ne (fun h => e (kD_inj (hS y hy) (hS x hx) h))
      simp [hk, h.got y hy, e]
theorem Got.all {S : List (List Int)} {left : Lit → Bool} {l : List (List Int)} (h : Got S left l) (hl : ∀ z, left z = false) : ∀ x, x ∈ l ↔ x ∈ S := fun x => ⟨h.sub x, fun hx => (h.got x hx).2 (hl _)⟩
theorem Try.zero32 : ∀ w, (zeroValue 32).run Try.prog w = .ok (.agg (dgC z32).toArray) w := fun w => by
  have h : (Try.prog.info? 32).map (fun i => (i.zero, i.size)) = some (some (.agg (dgC z32).toArray), 32) := by kernel_rfl
  cases hi : Try.prog.info? 32 with
  | none => rw [hi] at h; cases h
  | some i =>
    rw [hi] at h
    simp only [Option.map_some, Option.some.injEq, Prod.mk.injEq] at h
    simp [zeroValue, typeInfo, hi, h.1]
theorem dgc_all (x : List Int) : (dgC x).toArray.all (·.oneCell') = true := by
  rw [List.all_toArray, List.all_eq_true]
  intro u hu
  obtain ⟨z, _, rfl⟩ := List.mem_map.1 hu
  rfl
set_option maxHeartbeats 3200000 in
set_option maxRecDepth 100000 in
theorem keys_stopsD (S : List (List Int)) (Bm g nn : Nat) (D0 : DataW Value) (W0 : World) (hs : Sd S D0) (hbm : W0.heap[Bm]? = some (.cells #[.map (some g)] 98)) (hown : W0.ownsMap Try.prog 32 unitElem g nn D0) :
    SeqStopsK Fence.wide 9 Try.prog 67 #[.pointer (some ⟨Bm, 0, none⟩)] encD KeepsWalks (fun ys => ((valD ys).Nodup ∧ ∀ x, x ∈ valD ys ↔ x ∈ S) ∧ ys.length ≤ Maps.size D0) (fun _ => True) (Maps.size D0) W0 := fun ll J Jx W hW hJ _ hY h0 => by
  have HJ := hid hJ
  have HY := hid hY
  have HSD := hid hs
  have H0 := hid h0
  have HZ := hid Try.zero32
  have HOW : Hid (W.ownsMap Try.prog 32 unitElem g nn D0) := by
    have hbl := hown.lt
    obtain ⟨es, clock, hb, Ft, hs, hD⟩ := hown
    exact ⟨es, clock, (hW.block g hbl).trans hb, Ft, hs, hD⟩
  have cb0 := Joins.cell_of_block ((hW.block Bm (Array.getElem?_eq_some_iff.1 hbm).1).trans hbm) 0
  simp only [List.getElem?_toArray, List.getElem?_cons_zero] at cb0
  clear hY hJ hbm hown hW h0 hs
  refine callsIn_of_wp Try.func67 rfl trivial ?_ rfl
  simp only [Try.ntmps67, List.size_toArray, List.length_cons, List.length_nil, Nat.reduceAdd, Nat.reduceSub, Array.replicate_succ, Array.replicate_zero, List.push_toArray, List.append_toArray, List.nil_append, List.cons_append]
  gi_wp2_with (first | (gi_at_range; refine wpListIn_range_own W rfl _ 98 rfl 32 99 Try.keyed32 Try.underlying98 unitElem g nn D0 rfl HOW.out ?_) | fail)
  intro W2 hrg hg2 hs2
  have HRG := hid hrg
  have HJ2 := hid (HJ.out _ W W2 none H0.out hg2 (fun r e => by cases e))
  have HI : Hid (W.heap.size < W2.heap.size) := by show _ < _; omega
  obtain ⟨r, hr⟩ : ∃ r, r = W.heap.size := ⟨_, rfl⟩
  have HR := hid hr
  rw [← hr] at HRG ⊢
  clear hrg hg2 hs2 cb0 H0 hr
  gi_wp2
  gi_loopw [3] (fun _ wr => ∃ (left : Lit → Bool) (cnt : Nat) (ss : List Dg), Hid (wr.ranges Try.prog 32 unitElem g r nn D0 left cnt) ∧ Hid (ss.length + cnt ≤ Maps.size D0) ∧ Hid (Got S left (valD ss)) ∧ Hid (∀ kl, left kl = true → Maps.has D0 kl = true) ∧ Hid (J ss wr)) (fun _ wr => wr.rangeLeft g r)
  case atStart => exact ⟨_, _, [], HRG.out, (by show _ ≤ _; simp), Got.zero HSD.out, fun _ h => h, HJ2.out⟩
  case round =>
    obtain ⟨left, cnt, ss, HRA, HCS, HGO, HLA, HJS⟩ := hrel
    clear HRG HJ2
    gi_wp2_with (first | (gi_at_next; refine wpListIn_next_ranges wr rfl _ rfl 32 Try.keyed32 unitElem (fun v : Value => v) (fun v : Value => v) (fun key kl hk => ⟨key, rfl⟩) (fun v _ _ => ⟨v, rfl⟩) g r nn D0 left cnt rfl HRA.out ?_ ?_) | fail)
    · intro hc0 hl0
      have HE := hid (HGO.out.all hl0)
      have HAP := hid HGO.out.apart
      have HJE := hid HJS.out
      clear hl0
      gi_wp2
      go_end0
      exact ⟨⟨_, rfl⟩, .inl ⟨ss, ⟨⟨HAP.out, HE.out⟩, by have := HCS.out; omega⟩, HJE.out⟩⟩
    · intro key c kl yd yp w2 cnt2 hk hl hv hat hra hcnt hgr hsz hen
      obtain ⟨x, hxS, rfl⟩ := HSD.out.sound kl (HLA.out kl hl)
      have hxd := HSD.out.dig x hxS
      obtain rfl : key = .agg (dgC x).toArray := Try.keyed32.inj hk (key_dig hxd)
      obtain rfl : c = .agg #[] := (unitElem_inv hv).1
      have HRA2 := hid hra
      have HCN := hid hcnt
      have HLX := hid (HGO.out.step HSD.out.dig hxS hl)
      have HLA2 : Hid (∀ kl, (left kl && !kl.sameKey (kD x)) = true → Maps.has D0 kl = true) := fun kl h => HLA.out kl (by rw [Bool.and_eq_true] at h; exact h.1)
      have HJ2 : Hid (J ss w2) := HJ.out ss wr w2 (some r) HJS.out hgr (fun q e => by cases e; rw [HR.out]; exact ⟨Nat.le_refl _, by rw [← HR.out]; exact HRA.out.iter_walk⟩)
      have HDL : Hid ((dgC x).length = 32) := by show _ = _; unfold dgC; rw [List.length_map]; exact hxd.len
      have HXD := hid hxd
      have HLFT : Hid (wr.rangeLeft g r = cnt) := HRA.out.left_eq
      clear hk hl hv hat hra hcnt hgr hsz hxS hxd HRA HJS HGO HLA
      gi_wp2_with (first | refine wpListIn_alloc_W rfl 32 rfl (some 3) rfl _ HZ.out w2.heap.size rfl ?_ | fail)
      intro V1 HG1 HB1 HS1
      gi_wp2_with (first | refine wpListIn_store_W rfl 32 _ _ rfl rfl w2.heap.size (dgC x).toArray rfl rfl 32 _ HG1.out (by rw [List.size_toArray, HDL.out]; exact Try.size32') (by rw [List.size_toArray, List.size_toArray, HDL.out]; rfl) (dgc_all x) ?_ | fail)
      intro V2 HG2 HGR2 HS2
      have HB2 : Hid (Below w2.heap.size w2 V2) := HB1.out.trans (bel_grown HGR2.out (Nat.le_refl _) HB1.out.size)
      have HJ3 := hid (HJ.out ss w2 V2 none HJ2.out (grown_bel (r := none) HB2.out) (fun q e => by cases e))
      have HRA3 : Hid (V2.ranges Try.prog 32 unitElem g r nn D0 (fun z => left z && !z.sameKey (kD x)) cnt2) := HRA2.out.kept (grown_bel (r := none) HB2.out) (by simp) (by simp)
      have HXR : Hid (V2.rangeAt w2.heap.size 0 (dgC x)) := blk_range HG2.out
      obtain ⟨fn, tmps, assign, body, hy, hRd⟩ := HY.out ss ⟨x, HXD.out⟩ V2 HJ3.out (by have := HCS.out; have := HCN.out; omega)
      unfold encD at hy
      dsimp only at hy
      clear HG1 HB1 HS1 HGR2 HS2 hen HJ2 HRA2
      gi_wp2_with (first | refine wpListIn_load_P rfl 32 _ rfl w2.heap.size 0 rfl (dgC x) _ HXR.out Try.underlying32 rfl (by rw [HDL.out]; exact Try.size32') ?_ | fail)
      refine hRd.mono ?_
      rintro e w3 (⟨rfl, hJ3, hk3⟩ | ⟨rfl, hJx3⟩)
      · have HRG3 := hid (HRA3.out.of_walks hk3)
        have HJ4 := hid hJ3
        clear hJ3 hk3
        have HME : Hid (w3.rangeLeft g r < wr.rangeLeft g r) := by show _ < _; rw [HLFT.out, HRG3.out.left_eq]; exact HCN.out
        have HC2 : Hid ((ss ++ [(⟨x, HXD.out⟩ : Dg)]).length + cnt2 ≤ Maps.size D0) := by show _ ≤ _; have := HCS.out; have := HCN.out; simp; omega
        have HLY : Hid (Got S (fun z => left z && !z.sameKey (kD x)) (valD (ss ++ [(⟨x, HXD.out⟩ : Dg)]))) := by
          show Got _ _ _
          rw [valD_snoc]
          exact HLX.out
        gi_wp2
        exact ⟨⟨_, cnt2, ss ++ [(⟨x, HXD.out⟩ : Dg)], HRG3.out, HC2.out, HLY.out, HLA2.out, HJ4.out⟩, HME.out⟩
      · gi_wp2
        refine bodyPost_ret (results_none rfl _ _ _) rfl ?_
        exact ⟨⟨_, rfl⟩, .inr ⟨_, trivial, hJx3⟩⟩
end Go.Proofs.Ytcbjlnabbfkkeaa
namespace Go.Proofs.Ytcbjlnabbfkkeaa
open Go.ChangeShapes Go.WideShapes Go.ChangeAt Go.RowKit Go.Deep Go.Lib
attribute [local go_sem] Oper.semAt_some

theorem wpListIn_buildOne {F : Fence} {n : Nat} {P : Program} {w : World} {ops : Array Oper} {rest : List Oper} {o : Oper} {a : Act} {Q : Exit → Act → World → Prop} (hg : o.guard = none) (t e : TypeId) (x : Operand) (ho : o.op = .buildSlice t 1 #[(0, x)]) (d : Option Tmp) (hd : o.dst = d)
    (cells : Array Value) (ie : TypeInfo) (z : Value) (hu : P.underlying t = some (.slice e)) (hie : P.info? e = some ie) (hz : ie.zero = some z) (hs : ie.size = cells.size) (hp : 0 < cells.size) (hq : cells.size ≤ 1000) (hx : a.eval x = .agg cells) (N : Nat) (hN : N = w.heap.size)
    (h : ∀ W', Hid (W'.heap[N]? = some (.cells cells e)) → Hid (Below N w W') → wpListIn F n P ops Q rest (a.put d (.slice (some ⟨N, 0, none⟩) 1 1)) W') : wpListIn F n P ops Q (o :: rest) a w := by
  subst hN
  subst hd
  have hf := Great.fill_whole (s := cells.size) hp [.agg cells] ((Array.range (1 * cells.size)).map (z.cells[· % z.cells.size]!)) (fun v hv => by simp at hv; subst hv; rfl) (by simp)
  have hr := run_buildSlice (P := P) w t e 1 #[(0, .agg cells)] cells ie z hu hie hz (by rw [hs]; omega) (by rw [hs]; omega) (by rw [hs]; simpa [Value.cells] using hf)
  refine in_value hg _ _ (fun c e => by rw [ho] at e; cases e) (by simp [Oper.about, ho]) ?_ (h (w.alloc (.cells cells e)) (heap_alc w _) (bel_alc w _))
  unfold execOp
  simp only [ho, List.map_toArray, List.map_cons, List.map_nil, hx, Sem.run_bind, hr, Result.andThen_ok]
  rfl
theorem others_of_grown {W W' : World} {row : Option Nat} (hg : W.grownBy W' row) (hr : ∀ r, row = some r → ∃ o : Obj, W.heap[r]? = some o ∧ o.isCells = true) : KeepsOthers W W' :=
  ⟨hg.size, fun k o hk ho => (hg.block k (Array.getElem?_eq_some_iff.1 hk).1 (fun e => by
    obtain ⟨o', h1, h2⟩ := hr k e.symm
    rw [hk] at h1
    injection h1 with h1
    subst h1
    rw [ho] at h2
    cases h2)).trans hk⟩
theorem walks_of_others {W W' : World} (h : KeepsOthers W W') : KeepsWalks W W' := ⟨h.size, fun k o hk hw => h.same k o hk (by cases o <;> first | rfl | cases hw)⟩
theorem row_cells {W : World} {base : Nat} {e : TypeId} {size : Nat} {v : Value} {k : Nat} {xs : List Value} (h : W.ownsRow base e size v k xs) : ∀ r, v.ownBlock = some r → ∃ o : Obj, W.heap[r]? = some o ∧ o.isCells = true := fun r hr => by
  rcases h.2 with ⟨rfl, _⟩ | ⟨g, cap, cur, rfl, _, hgb, _⟩
  · cases hr
  · have e : g = r := by simpa [Value.ownBlock] using hr
    subst e
    exact ⟨_, hgb, rfl⟩
theorem row_own {W W' : World} {base : Nat} {e : TypeId} {size : Nat} {v : Value} {k : Nat} {xs : List Value} {row : Option Nat} (h : W.ownsRow base e size v k xs) (hg : W.grownBy W' row) (hr : ∀ r, row = some r → ∃ o : Obj, W.heap[r]? = some o ∧ o.isCells = false) : W'.ownsRow base e size v k xs := by
  refine h.kept hg ?_
  rcases h.2 with ⟨rfl, _⟩ | ⟨g, cap, cur, rfl, _, hgb, _⟩
  · exact .inl rfl
  · refine .inr fun e' => ?_
    obtain ⟨o, ho, hw⟩ := hr g (by simpa [Value.ownBlock] using e'.symm)
    rw [hgb] at ho
    cases ho
    cases hw
theorem box_own {W W' : World} {B : Nat} {t : TypeId} {v : Value} {row : Option Nat} (h : Boxed W B t v) (hg : W.grownBy W' row) (hr : ∀ r, row = some r → ∃ o : Obj, W.heap[r]? = some o ∧ o.isCells = false) : Boxed W' B t v := by
  refine h.kept hg (fun e => ?_)
  obtain ⟨o, ho, hc⟩ := hr B e.symm
  rw [show W.heap[B]? = _ from h] at ho
  cases ho
  cases hc
theorem blk_own {W W' : World} {B : Nat} {cs : Array Value} {t : TypeId} {row : Option Nat} (h : W.heap[B]? = some (.cells cs t)) (hg : W.grownBy W' row) (hr : ∀ r, row = some r → ∃ o : Obj, W.heap[r]? = some o ∧ o.isCells = false) : W'.heap[B]? = some (.cells cs t) := by
  refine (hg.block B (Array.getElem?_eq_some_iff.1 h).1 (fun e => ?_)).trans h
  obtain ⟨o, ho, hc⟩ := hr B e.symm
  rw [h] at ho
  cases ho
  cases hc
theorem bel_own {W W' : World} {n₀ n : Nat} {w : World} {row : Option Nat} (h : Below n₀ w W) (hn : n₀ ≤ n) (hw : n₀ ≤ w.heap.size) (hg : W.grownBy W' row) (hr : ∀ r, row = some r → n ≤ r ∧ ∃ o : Obj, W.heap[r]? = some o ∧ o.isCells = false) : Below n₀ w W' :=
  h.grown hg (Nat.le_trans hw h.size) (fun k e => Nat.le_trans hn (hr k e).1)
/-- What AppendSeq has between two rounds: its box bx holds an own row of what has come. -/
structure Apd (w : World) (bx : Nat) (l : List (List Int)) (W : World) : Prop where
  row : ∃ v, Boxed W bx 71 v ∧ W.ownsRow (w.heap.size + 1) 32 32 v l.length (l.flatMap dgC)
  bel : Below w.heap.size w W
theorem Apd.own {w W W' : World} {bx : Nat} {l : List (List Int)} {n : Nat} {row : Option Nat} (h : Apd w bx l W) (hn : w.heap.size ≤ n) (hg : W.grownBy W' row) (hr : ∀ r, row = some r → n ≤ r ∧ ∃ o : Obj, W.heap[r]? = some o ∧ o.isCells = false) : Apd w bx l W' := by
  obtain ⟨v, h1, h2⟩ := h.row
  exact ⟨⟨v, box_own h1 hg (fun r e => (hr r e).2), row_own h2 hg (fun r e => (hr r e).2)⟩, bel_own h.bel hn (Nat.le_refl _) hg hr⟩
theorem boxed_set {W : World} {B : Nat} {v : Value} {t : TypeId} (v' : Value) (h : Boxed W B t v) : Boxed (W.setCell ⟨B, 0, none⟩ v') B t v' := by
  obtain ⟨hlt, hk⟩ := Array.getElem?_eq_some_iff.1 h
  show (W.heap.modify B _)[B]? = _
  rw [Array.getElem?_eq_getElem (by rw [Array.size_modify]; exact hlt), Array.getElem_modify_self, hk]
  rfl
set_option maxHeartbeats 3200000 in
set_option maxRecDepth 100000 in
theorem appendSeq_word (w : World) (Bm : Nat) (S Sp : List Dg → Prop) (N : Nat) (hN : N ≤ 200000) (hseq : ∀ W, Below w.heap.size w W → SeqStopsK Fence.wide 9 Try.prog 67 #[.pointer (some ⟨Bm, 0, none⟩)] encD KeepsWalks S Sp N W) :
    Calls Try.prog 83 #[.slice none 0 0, .func (.func 67) #[] #[.pointer (some ⟨Bm, 0, none⟩)]] w fun e w' => ∃ (v : Value) (ys : List Dg), e = .returned v ∧ S ys ∧ w'.ownsRow (w.heap.size + 1) 32 32 v (valD ys).length ((valD ys).flatMap dgC) ∧ Below w.heap.size w w' := by
  have HSEQ := hid hseq
  have HZ := hid Try.zero32
  obtain ⟨i0, hi, hz0, hz1, hz2⟩ := info_parts Try.info32
  clear hseq
  refine (callsIn_wide (n := 10)).1 ?_
  refine callsIn_of_wp_marks Try.func83 rfl trivial ?_ rfl
  simp only [Try.ntmps83, List.size_toArray, List.length_cons, List.length_nil, Nat.reduceAdd, Nat.reduceSub, Array.replicate_succ, Array.replicate_zero, List.push_toArray, List.append_toArray, List.nil_append, List.cons_append]
  gi_wp2_with fail
  have hB0 := bel_alc w (.cells #[.slice none 0 0] 71)
  have hg0 := heap_alc w (.cells #[.slice none 0 0] 71)
  have hsz : (w.alloc (.cells #[.slice none 0 0] 71)).heap.size = w.heap.size + 1 := by simp
  generalize w.alloc (.cells #[.slice none 0 0] 71) = W1 at *
  refine wpIn_rangeFunc_ownH (n := 10) rfl (by omega) (gf := 67) (lb := #[.pointer (some ⟨Bm, 0, none⟩)]) rfl trivial (fun args w => by kernel_rfl) (HSEQ.out W1 hB0) walksK_t (fun W l o o' h1 h2 h3 h4 => walksK_b (w := W1) W l o o' h1 h2 h3 h4) (Below.refl _ _) (fun _ => rfl)
    (fun pre W => Apd w w.heap.size (valD pre) W) (fun _ _ _ => False)
    (fun pre W W' row h hg hr => h.own (n := W1.heap.size) (by omega) hg hr)
    (fun c pre W W' row h hg hr => h)
    ⟨⟨.slice none 0 0, hg0, World.ownsRow_nil _ _ _ _⟩, hB0⟩
    (fun x a' W => ∃ B, a' = ⟨#[.slice none 0 0, .func (.func 67) #[] #[.pointer (some ⟨Bm, 0, none⟩)], .pointer (some ⟨w.heap.size, 0, none⟩), undef, .slice none 0 0, .pointer (some ⟨B, 0, none⟩), .func (.func 67) #[] #[.pointer (some ⟨Bm, 0, none⟩)], .agg (dgC x.1).toArray, undef, undef, undef, undef, undef], []⟩ ∧ W.heap[B]? = some (.cells (dgC x.1).toArray 32)) ?hax ?has ?hbo ?hdo ?hst
  case hax =>
    rintro x a' _ W W' row ⟨B, e, h⟩ hg hr
    exact ⟨B, e, blk_own h hg (fun r e => (hr r e).2)⟩
  case has =>
    rintro l pre ⟨x, hx⟩ W K hi hK
    have HK := hid hK
    have HI := hid hi
    have HDL : Hid ((dgC x).length = 32) := by show _ = _; unfold dgC; rw [List.length_map]; exact hx.len
    clear hK hi
    unfold encD
    simp only [List.zip_toArray, List.zip_cons_cons, List.zip_nil_right, List.foldl_toArray, List.foldl_cons, List.foldl_nil, List.setIfInBounds_toArray, List.set_cons_zero, List.set_cons_succ]
    gi_wp2_with (first | refine wpListIn_alloc_W rfl 32 rfl (some 5) rfl _ HZ.out W.heap.size rfl ?_ | fail)
    intro V1 HG1 HB1 HS1
    gi_wp2_with (first | refine wpListIn_store_W rfl 32 _ _ rfl rfl W.heap.size (dgC x).toArray rfl rfl 32 _ HG1.out (by rw [List.size_toArray, HDL.out]; exact Try.size32') (by rw [List.size_toArray, List.size_toArray, HDL.out]; rfl) (dgc_all x) ?_ | fail)
    intro V2 HG2 HGR2 HS2
    have HB2 : Hid (Below W.heap.size W V2) := HB1.out.trans (bel_grown HGR2.out (Nat.le_refl _) HB1.out.size)
    gi_wp2
    have hgr := grown_bel (r := none) HB2.out
    have hko := others_of_grown hgr (fun r e => by cases e)
    exact HK.out _ V2 (hko.from _) (walks_of_others hko) (HI.out.own (n := W1.heap.size) (by omega) hgr (fun r e => by cases e)) ⟨W.heap.size, rfl, HG2.out⟩
  case hbo =>
    rintro l pre ⟨x, hx⟩ a' W hl hrec hi ⟨B, rfl, hB⟩ hlen
    obtain ⟨⟨v, hbx, hrow⟩, hbel⟩ := hi
    have HDL : Hid ((dgC x).length = 32) := by show _ = _; unfold dgC; rw [List.length_map]; exact hx.len
    have HPL : Hid ((valD pre).length ≤ 200000) := by show _ ≤ _; unfold valD; rw [List.length_map]; omega
    have cbx := hbx.cell
    have HBX := hid hbx
    have HXR : Hid (W.rangeAt B 0 (dgC x)) := blk_range hB
    have HRO := hid hrow
    have HBE := hid hbel
    have HZZ : Hid (w.heap.size + 1 ≤ W.heap.size) := by show _ ≤ _; have := hbx.lt; omega
    clear hbx hrow hbel hB hrec hl hlen
    gi_wp2_with (first | refine wpListIn_load_P rfl 32 _ rfl B 0 rfl (dgC x) _ HXR.out Try.underlying32 rfl (by rw [HDL.out]; exact Try.size32') ?_ | refine wpListIn_buildOne rfl 71 32 _ rfl (some 10) rfl (dgC x).toArray i0 _ Try.underlying71 hi hz0 (by rw [hz1, List.size_toArray, HDL.out]) (by rw [List.size_toArray, HDL.out]; decide) (by rw [List.size_toArray, HDL.out]; decide) rfl W.heap.size rfl ?_ | fail)
    intro V1 HG1 HB1
    have HRO1 := hid (own_later HRO.out HB1.out)
    have HBX1 : Hid (Boxed V1 w.heap.size 71 v) := (HB1.out.block _ HBX.out.lt).trans HBX.out
    have cbx1 := HBX1.out.cell
    refine wpListIn_append_own_at V1 rfl _ _ 71 rfl (w.heap.size + 1) 32 i0 _ 32 32 Try.underlying71 hi hz0 hz1 hz2 rfl (by decide) v (valD pre).length _ rfl HRO1.out ⟨W.heap.size, 0, none⟩ 1 1 (dgC x) rfl (by rw [HDL.out]) (fun j u hu => (by rw [add_plain, Nat.zero_add]; exact (Joins.cell_of_block HG1.out j).trans (by rw [List.getElem?_toArray]; exact hu))) (dgC_one x) (by have := HPL.out; unfold maxLen; omega) (by have := HPL.out; omega) (Nat.le_trans HZZ.out HB1.out.size) ?_
    intro v' V2 hro2 hgr2 _ _
    have hne : v.ownBlock ≠ some w.heap.size := fun e => by
      have := (HRO1.out.lt _ e).1
      omega
    have hbx2 : Boxed V2 w.heap.size 71 v := HBX1.out.kept hgr2 (fun e => hne e.symm)
    have hro2' : v'.ownBlock ≠ some w.heap.size := fun e => by
      have := (hro2.lt _ e).1
      omega
    have cbx2 := hbx2.cell
    have fbx2 := Joins.unfrozen_of_block hbx2 0
    have HRO2 := hid hro2
    have HGR2 := hid hgr2
    have HNE := hid hro2'
    obtain ⟨g5, cap5, hv5⟩ : ∃ g5 cap5, v' = .slice (some ⟨g5, 0, none⟩) ((valD pre).length + 1) cap5 := by
      rcases hro2.2 with ⟨_, h⟩ | ⟨g5, cap5, _, h, _⟩
      · exact absurd h (by omega)
      · exact ⟨g5, cap5, h⟩
    subst hv5
    have HBX2 := hid hbx2
    clear hne hro2 hgr2 hbx2 hro2' cbx1 cbx
    gi_wp2
    have hgs := grownBy_setCell' V2 w.heap.size (.slice (some ⟨g5, 0, none⟩) ((valD pre).length + 1) cap5)
    have k1 : KeepsOthers W V1 := others_of_grown (grown_bel (r := none) HB1.out) (fun r e => by cases e)
    have k2 : KeepsOthers V1 V2 := others_of_grown HGR2.out (row_cells HRO1.out)
    have k3 : KeepsOthers V2 (V2.setCell ⟨w.heap.size, 0, none⟩ (.slice (some ⟨g5, 0, none⟩) ((valD pre).length + 1) cap5)) := others_of_grown hgs (fun r e => by cases e; exact ⟨_, HBX2.out, rfl⟩)
    have kk := (k1.trans k2).trans k3
    have hb3 := (HBE.out.trans (HB1.out.mono HBE.out.size)).grown HGR2.out (Nat.le_trans HBE.out.size HB1.out.size) (fun j hj => by have := (HRO1.out.lt j hj).1; omega)
    have hb4 := hb3.grown hgs hb3.size (fun j hj => by cases hj; exact Nat.le_refl _)
    have hr4 : (V2.setCell ⟨w.heap.size, 0, none⟩ (.slice (some ⟨g5, 0, none⟩) ((valD pre).length + 1) cap5)).ownsRow (w.heap.size + 1) 32 32 (.slice (some ⟨g5, 0, none⟩) ((valD pre).length + 1) cap5) (valD (pre ++ [(⟨x, hx⟩ : Dg)])).length ((valD (pre ++ [(⟨x, hx⟩ : Dg)])).flatMap dgC) := by
      have h := HRO2.out.kept hgs (.inr (fun e => HNE.out e))
      rw [valD_snoc, List.length_append, List.flatMap_append]
      simpa using h
    exact ⟨kk.from _, walks_of_others kk, ⟨⟨_, boxed_set _ HBX2.out, hr4⟩, hb4⟩⟩
  case hdo =>
    rintro D ys W hD hS hi hd
    obtain ⟨⟨v, hbx, hrow⟩, hbel⟩ := hi
    have cbx := hbx.cell
    have HS := hid hS
    have HRO := hid hrow
    have HBE := hid hbel
    have HD := hid hd
    have HDD := hid hD
    have HSZ := hid hsz
    clear hbx hrow hbel hd hS hD hsz hB0 hg0
    gi_wp2_with fail
    refine ⟨by simp, .inl ⟨_, _, rfl, run_takeDeferred HD.out, ?_⟩⟩
    refine ⟨_, results_tmp rfl _ _ _, ?_⟩
    have hne : v.ownBlock ≠ some D := fun e => by
      obtain ⟨o, h1, h2⟩ := row_cells HRO.out D e
      rw [HD.out] at h1
      cases h1
      cases h2
    have hgp := grownBy_putObj' W D (.deferred none)
    refine ⟨v, ys, rfl, HS.out, HRO.out.kept hgp (.inr (fun e => hne e)), HBE.out.grown hgp HBE.out.size (fun j hj => by cases hj; have := HDD.out; have := HSZ.out; omega)⟩
  case hst =>
    rintro D c pre W _ _ h _
    exact h.elim
set_option maxRecDepth 100000 in
theorem collect_word (w : World) (Bm : Nat) (S Sp : List Dg → Prop) (N : Nat) (hN : N ≤ 200000) (hseq : ∀ W, Below w.heap.size w W → SeqStopsK Fence.wide 9 Try.prog 67 #[.pointer (some ⟨Bm, 0, none⟩)] encD KeepsWalks S Sp N W) :
    Calls Try.prog 65 #[.func (.func 67) #[] #[.pointer (some ⟨Bm, 0, none⟩)]] w fun e w' => ∃ (v : Value) (ys : List Dg), e = .returned v ∧ S ys ∧ w'.ownsRow (w.heap.size + 1) 32 32 v (valD ys).length ((valD ys).flatMap dgC) ∧ Below w.heap.size w w' := by
  have HA := hid (appendSeq_word w Bm S Sp N hN hseq)
  clear hseq
  go_enter Try.func65, Try.ntmps65
  go_wp2_with fail
  refine HA.out.mono ?_
  rintro _ w1 ⟨v, ys, rfl, hS, hr, hb⟩
  have HS := hid hS
  have HR := hid hr
  have HB := hid hb
  clear hS hr hb HA
  go_wp2
  go_ret
  exact ⟨v, ys, rfl, HS.out, HR.out, HB.out⟩
end Go.Proofs.Ytcbjlnabbfkkeaa
namespace Go.Proofs.Ytcbjlnabbfkkeaa
open Go.ChangeShapes Go.WideShapes Go.ChangeAt Go.RowKit Go.Deep Go.Lib

set_option maxHeartbeats 1600000 in
set_option maxRecDepth 100000 in
theorem compare_word (w : World) (b o n c b' o' n' c' : Nat) (xs ys : List Int) (hx : xs.length = n) (hy : ys.length = n') (h1 : w.rangeAt b o (dgC xs)) (h2 : w.rangeAt b' o' (dgC ys)) :
    Calls Try.prog 50 #[.slice (some ⟨b, o, none⟩) n c, .slice (some ⟨b', o', none⟩) n' c'] w fun e w' => e = .returned (.int .i64 (Lib.compareBytes (Lib.bytesOf xs) (Lib.bytesOf ys))) ∧ w' = w := by
  have HR := hid (run_compareSlices (P := Try.prog) w b o n c b' o' n' c' xs ys hx hy h1 h2)
  clear h1 h2
  go_enter Try.func50, Try.ntmps50
  go_wp2
  rw [run_callFunc_extern Try.func68 (by kernel_rfl) (by kernel_rfl) (by kernel_rfl) (e := Extern.BytealgCompare.compare) (by kernel_rfl), HR.out]
  simp only [Result.andThen]
  rw [Oper.upon_value]
  go_wp2
  go_ret
  exact ⟨rfl, rfl⟩
def cfD (x y : Dg) : Int := Lib.compareBytes (Lib.bytesOf x.1) (Lib.bytesOf y.1)
set_option maxHeartbeats 3200000 in
set_option maxRecDepth 100000 in
theorem cmpD_word (x y : Dg) (w : World) : Calls Try.prog 49 #[.agg (dgC x.1).toArray, .agg (dgC y.1).toArray] w fun e w' => e = .returned (.int .i64 (cfD x y)) ∧ ∃ m, w' = ((w.alloc (.cells (dgC x.1).toArray 32)).alloc (.cells (dgC y.1).toArray 32)).drewN m := by
  have hs : (w.alloc (.cells (dgC x.1).toArray 32)).heap.size = w.heap.size + 1 := by simp
  have g1 := heap_old _ (.cells (dgC y.1).toArray 32) (heap_alc w (.cells (dgC x.1).toArray 32))
  have g2 := heap_alc (w.alloc (.cells (dgC x.1).toArray 32)) (.cells (dgC y.1).toArray 32)
  rw [hs] at g2
  have HX := hid x.2.len
  have HY := hid y.2.len
  unfold cfD
  go_enter Try.func49, Try.ntmps49
  go_wp2_with fail
  generalize hW2 : (w.alloc (.cells (dgC x.1).toArray 32)).alloc (.cells (dgC y.1).toArray 32) = W2 at *
  have HW2 := hid hW2
  clear hW2
  have HRX := hid (fun X (hX : ∃ m, X = W2.drewN m) => show X.rangeAt w.heap.size 0 (dgC x.1) from by obtain ⟨m, rfl⟩ := hX; exact blk_range g1)
  have HRY := hid (fun X (hX : ∃ m, X = W2.drewN m) => show X.rangeAt (w.heap.size + 1) 0 (dgC y.1) from by obtain ⟨m, rfl⟩ := hX; exact blk_range g2)
  clear g1 g2
  refine wp_region_held_drew (S := fun X => ∃ m, X = W2.drewN m) (by kernel_rfl) ⟨1, rfl⟩ (fun hS_v0 => ?_)
  generalize W2.drew = v0 at *
  simp only [List.size_toArray, List.length_cons, List.length_nil, Nat.reduceAdd]
  refine Ord.take (i := 0) (d := 5) (v := .slice (some ⟨w.heap.size, 0, none⟩) 32 32) rfl rfl (by as_aux_lemma => kernel_rfl) (by as_aux_lemma => kernel_rfl) (by as_aux_lemma => kernel_rfl) (fun _ _ _ h => h) (by rfl) ?hA0 (by assumption) ?_
  case hA0 => intro wx hSw; go_simp; try with_reducible rfl
  try simp only [List.setIfInBounds_toArray, List.set_cons_zero, List.set_cons_succ]
  refine Ord.take (i := 1) (d := 6) (v := .slice (some ⟨w.heap.size + 1, 0, none⟩) 32 32) rfl rfl (by as_aux_lemma => kernel_rfl) (by as_aux_lemma => kernel_rfl) (by as_aux_lemma => kernel_rfl) (fun _ _ _ h => h) (by rfl) ?hA1 (by assumption) ?_
  case hA1 => intro wx hSw; go_simp; try with_reducible rfl
  try simp only [List.setIfInBounds_toArray, List.set_cons_zero, List.set_cons_succ]
  refine wpAnyH_ready (rs := [2]) (by as_aux_lemma => kernel_rfl) (by simp) (AllReadyH.cons rfl (fun K hK => ?_) (AllReadyH.nil))
  try go_simp
  refine (compare_word v0 w.heap.size 0 32 32 (w.heap.size + 1) 0 32 32 x.1 y.1 HX.out HY.out (HRX.out v0 hS_v0) (HRY.out v0 hS_v0)).mono ?_
  rintro _ v1 ⟨rfl, hw⟩
  obtain rfl := hw.symm
  clear hw
  refine hK.out _ _ hS_v0 (fun _ => ?_)
  clear hK K
  try simp only [List.setIfInBounds_toArray, List.set_cons_zero, List.set_cons_succ]
  refine Ord.take (i := 3) (d := 4) (v := ?vA3) rfl rfl (by as_aux_lemma => kernel_rfl) (by as_aux_lemma => kernel_rfl) (by as_aux_lemma => kernel_rfl) (fun _ _ _ h => h) (by rfl) ?hA3 (by assumption) ?_
  case hA3 => intro wx hSw; go_simp; try with_reducible rfl
  try simp only [List.setIfInBounds_toArray, List.set_cons_zero, List.set_cons_succ]
  refine wpAnyH_done (by as_aux_lemma => kernel_rfl) ?_ _
  have HS9 := hid hS_v0
  clear hS_v0
  go_wp2
  go_ret
  obtain ⟨m, hm⟩ := HS9.out
  exact ⟨rfl, m, by rw [HW2.out]; exact hm⟩
def encL (x : Dg) : List Value := dgC x.1
theorem enc_len (x : Dg) : (encL x).length = 32 := dgC_len x.2.len
def zD : Dg := ⟨z32, ⟨rfl, z32_u8⟩⟩
instance : Inhabited Dg := ⟨zD⟩
theorem ltD_str (x y : Dg) : ltOf cfD x y = Sort.ltStr (Lib.bytesOf x.1) (Lib.bytesOf y.1) := by
  unfold ltOf cfD Sort.ltStr
  exact decide_eq_decide.2 (compare_lt _ _)
theorem ltD (x y : Dg) : ltOf cfD x y = ltI x.1 y.1 := by
  rw [ltD_str]
  unfold Sort.ltStr
  rw [Bool.eq_iff_iff, decide_eq_true_eq]
  exact (ltI_bytes x.1 y.1 x.2.mem y.2.mem (by rw [x.2.len, y.2.len])).symm
theorem swoD : Sort.SWO (ltOf cfD) :=
  ⟨fun x => by rw [ltD_str]; exact Sort.swo_ltStr.irrefl _, fun x y z h1 h2 => by rw [ltD_str] at *; exact Sort.swo_ltStr.trans _ _ _ h1 h2, fun x y z h1 h2 => by rw [ltD_str] at *; exact Sort.swo_ltStr.ntrans _ _ _ h1 h2⟩
theorem grow_drew (w : World) (os : Array Obj) (m : Nat) : (Sort.grow w os).drewN m = Sort.grow (w.drewN m) os := rfl
theorem cmpLaysD (blk off size : Nat) (w : World) : CmpLays Try.prog 49 #[] encL 32 cfD blk off size w := fun m os dk _ x y => by
  refine (cmpD_word x y _).mono ?_
  rintro _ w' ⟨rfl, q, rfl⟩
  refine ⟨rfl, q, #[.cells (encL x).toArray 32, .cells (encL y).toArray 32], ?_⟩
  show _ = Sort.grow ((sortWorldK encL 32 w blk off m dk os).drewN q) _
  rw [Sort.alloc_eq_grow, Sort.alloc_eq_grow, Sort.grow_grow, grow_drew]
  rfl
theorem sortD_grown (w : World) (g n : Nat) (d : Array Dg) (os : Array Obj) : w.grownBy (sortWorldK encL 32 w g 0 n d os) (some g) := by
  refine ⟨rfl, rfl, rfl, ?_, fun k hk hne => ?_⟩
  · exact size_sortWorldK_c (k := 32) encL w g 0 n d os
  · have hgk : g ≠ k := fun e => hne (by rw [e])
    show ((w.heap.modify g _) ++ os)[k]? = w.heap[k]?
    rw [Array.getElem?_append_left (by simpa using hk), Array.getElem?_modify, if_neg hgk]
theorem sortedD_word (w : World) (g cap : Nat) (L : List Dg) (base : Nat) (h : w.ownsRow base 32 32 (.slice (some ⟨g, 0, none⟩) L.length cap) L.length (L.flatMap encL)) (hn : L.length ≤ 100000) :
    Calls Try.prog 66 #[.slice (some ⟨g, 0, none⟩) L.length cap, .func (.func 49) #[] #[]] w fun e w' => e = .returned (.tuple #[]) ∧ ∃ L' : List Dg, L'.Perm L ∧ L'.Pairwise (fun x y => ltOf cfD y x = false) ∧ Rw 32 encL zD w' (some ⟨g, 0, none⟩) cap L' ∧ w.grownBy w' (some g) := by
  obtain ⟨a, cap', hv, hr, _⟩ := Rw.own (z := zD) h (fun y _ => enc_len y)
  injection hv with hv1 hv2 hv3
  subst hv1
  subst hv3
  have hlen : ∀ x : Dg, (encL x).length = 32 := enc_len
  obtain ⟨cur, hcur⟩ : ∃ cur, w.heap[g]? = some (.cells cur 32) := by
    rcases h.2 with ⟨h1, _⟩ | ⟨g2, cap2, cur, h1, _, h3, _⟩
    · cases h1
    · injection h1 with h1
      injection h1 with h1
      injection h1 with h1
      subst h1
      exact ⟨cur, h3⟩
  have hg : g < w.heap.size := (Array.getElem?_eq_some_iff.1 hcur).1
  have hroom := hr.room
  have hmost := hr.most
  have hH : Go.Sort.HoldsK encL 32 w g 0 L.toArray := fun j hj => by
    rw [Go.Sort.size_flatK] at hj
    have hj2 : j < L.length * 32 := by simpa using hj
    refine ⟨?_, Joins.unfrozen_of_block hcur _⟩
    obtain ⟨b, off, e, _, hc⟩ := hr.cells (by omega)
    injection e with e
    injection e with e1 e2
    subst e1
    subst e2
    rw [Go.Sort.get_flatK _ _ _ _ hj]
    have hq : j / 32 < L.length := by omega
    have h1 := hc (j / 32) hq (j % 32) (encL (L.toArray[j / 32]!))[j % 32]! ?_
    · rw [show (0 : Nat) + j / 32 * 32 + j % 32 = 0 + j from by omega] at h1
      exact h1
    · have h2 : L.toArray[j / 32]! = L.getD (j / 32) zD := by simp [hq, List.getD]
      rw [h2]
      have h3 : j % 32 < (encL (L.getD (j / 32) zD)).length := by rw [hlen]; omega
      rw [getElem!_pos (encL (L.getD (j / 32) zD)) (j % 32) h3]
      exact List.getElem?_eq_getElem h3
  have haE : ∀ W, (isAgg 32).run Try.prog W = .ok true W := fun W => by kernel_rfl
  have hzE : ∀ W, (Go.sizeOf 32).run Try.prog W = .ok 32 W := fun W => by kernel_rfl
  have heg : ∀ args W, (callFunc 49 args).run Try.prog W = .ok (.enter 49 args) W := fun args W => by kernel_rfl
  have key := AnyQ.slices_SortFunc (P := Try.prog) Try.sortDigests 32 haE hzE encL hlen (fun x v hv => dgC_one x.1 v hv) cfD swoD 49 #[] g 0 cap L.toArray w heg (cmpLaysD g 0 _ w) hH hg (by simp; omega)
  have hsz : L.toArray.size = L.length := by simp
  rw [hsz] at key
  refine key.mono ?_
  rintro e w' ⟨rfl, d', n, os, hp, hs, rfl⟩
  have hds : d'.size = L.length := hp.1.trans hsz
  have hH2 := holdsK_sortWorldK encL 32 w g 0 n L.toArray d' os hg hH hp.1
  refine ⟨rfl, d'.toList, ?_, ?_, ⟨by simp [hds]; omega, hmost, (fun h => by cases h), fun h0 => ⟨g, 0, rfl, lt_sortWorldK encL 32 w g 0 n d' os hg, fun j hj c v hv => ?_⟩⟩, sortD_grown w g n d' os⟩
  · have h1 := hp.2.2
    have e1 : d'.extract 0 L.length = d' := by rw [← hds]; simp
    have e2 : L.toArray.extract 0 L.length = L.toArray := by rw [← hsz]; simp
    rw [e1, e2] at h1
    simpa using h1
  · rw [List.pairwise_iff_getElem]
    intro i j hi hj hij
    have h1 := hs i j (Nat.zero_le _) hij (by simpa [hds] using hj)
    have hi' : i < d'.size := by simpa using hi
    have hj' : j < d'.size := by simpa using hj
    rw [getElem!_pos d' i hi', getElem!_pos d' j hj'] at h1
    simpa using h1
  · have hj' : j < d'.size := by simpa using hj
    have h3 : c < (encL (d'.toList.getD j zD)).length := (List.getElem?_eq_some_iff.1 hv).1
    have h4 := (hH2.cell (i := j) (c := c) hj' (by rw [hlen] at h3; exact h3)).1
    have h5 : d'[j]! = d'.toList.getD j zD := by
      rw [getElem!_pos d' j hj']
      simp [List.getD, hj']
    rw [h5, getElem!_pos (encL (d'.toList.getD j zD)) c h3] at h4
    rw [h4, ← hv]
    exact (List.getElem?_eq_getElem h3).symm
theorem encL_map (L : List Dg) : L.flatMap encL = (valD L).flatMap dgC := by
  unfold valD
  rw [List.flatMap_map]
  rfl
theorem rw_val {w : World} {a : Option Addr} {cap : Nat} {L : List Dg} (h : Rw 32 encL zD w a cap L) : Rw 32 dgC [] w a cap (valD L) := by
  have e : (valD L).length = L.length := List.length_map ..
  refine ⟨by rw [e]; exact h.room, h.most, h.none0, fun h0 => ?_⟩
  obtain ⟨b, off, ha, hb, hc⟩ := h.cells (by rw [← e]; exact h0)
  refine ⟨b, off, ha, hb, fun j hj => ?_⟩
  rw [e] at hj
  have h1 := hc j hj
  have h2 : (valD L).getD j [] = (L.getD j zD).1 := by simp [valD, List.getD, hj]
  rw [h2]
  exact h1
theorem rise_of {L : List Dg} (hn : (valD L).Nodup) (hs : L.Pairwise (fun x y => ltOf cfD y x = false)) : RiseD (valD L) := by
  unfold RiseD valD
  rw [List.pairwise_map]
  have hn2 : L.Pairwise (fun x y => x.1 ≠ y.1) := by
    unfold valD at hn
    exact List.pairwise_map.1 hn
  refine (hs.and hn2).imp ?_
  rintro x y ⟨h1, h2⟩
  rw [ltD] at h1
  cases h3 : ltI x.1 y.1 with
  | true => rfl
  | false => exact absurd (ltI_tri x.1 y.1 (by rw [x.2.len, y.2.len]) h3 h1) h2
/-- What SortedFunc makes of a set of digests. -/
def SrtP (W : World) (S : List (List Int)) : Ending → World → Prop := fun e w' => ∃ (a : Option Addr) (cap : Nat) (A : List (List Int)), e = .returned (.slice a A.length cap) ∧ Rw 32 dgC [] w' a cap A ∧ (∀ x ∈ A, x.length = 32) ∧ RiseD A ∧ (∀ y, y ∈ A ↔ y ∈ S) ∧ Below W.heap.size W w'
set_option maxHeartbeats 3200000 in
set_option maxRecDepth 100000 in
theorem sfunc_word (w : World) (S : List (List Int)) (Bm g nn : Nat) (D0 : DataW Value) (hs : Sd S D0) (hbm : w.heap[Bm]? = some (.cells #[.map (some g)] 98)) (hown : w.ownsMap Try.prog 32 unitElem g nn D0) (hN : Maps.size D0 ≤ 100000) :
    Calls Try.prog 47 #[.func (.func 67) #[] #[.pointer (some ⟨Bm, 0, none⟩)], .func (.func 49) #[] #[]] w (SrtP w S) := by
  have HC := hid (collect_word w Bm _ _ (Maps.size D0) (by omega) (fun W hW => keys_stopsD S Bm g nn D0 W hs (blk_later hbm hW) (by
    have hbl := hown.lt
    obtain ⟨es, clock, hb, Ft, hs, hD⟩ := hown
    exact ⟨es, clock, (hW.block g hbl).trans hb, Ft, hs, hD⟩)))
  clear hs hbm hown
  go_enter Try.func47, Try.ntmps47
  go_wp2_with fail
  refine HC.out.mono ?_
  rintro _ w1 ⟨v, ys, rfl, ⟨⟨hnd, hall⟩, hlen⟩, hr, hb⟩
  have HND := hid hnd
  have HL5 : Hid (ys.length ≤ 100000) := Nat.le_trans hlen hN
  have HALL := hid hall
  have HB := hid hb
  have HR := hid hr
  rw [← encL_map] at HR
  have e : (valD ys).length = ys.length := List.length_map ..
  rw [e] at HR
  clear hnd hall hb hr HC hlen
  rcases HR.out.2 with ⟨hv, hn⟩ | ⟨g5, cap5, cur, hv, hg5, _⟩
  · subst hv
    have hae : ys = [] := List.eq_nil_of_length_eq_zero hn
    subst hae
    clear hn
    go_wp2_with fail
    refine (AnyF.slices_SortFunc_none Try.sortDigests none 0 _ w1).mono ?_
    rintro _ w0 ⟨rfl, hw⟩
    obtain rfl := hw.symm
    clear hw
    go_wp2
    go_ret
    exact ⟨none, 0, [], rfl, Rw.nil _, (fun x hx => by cases hx), List.Pairwise.nil, HALL.out, HB.out⟩
  · subst hv
    have HG5 := hid hg5
    clear hg5
    go_wp2_with fail
    refine (sortedD_word w1 g5 cap5 ys (w.heap.size + 1) HR.out HL5.out).mono ?_
    rintro _ w9 ⟨rfl, L', hp, hs, hrw, hg9⟩
    have HP := hid hp
    have HS := hid hs
    have HRW := hid hrw
    have HG9 := hid hg9
    have HPL : Hid ((valD L').length = ys.length) := by show _ = _; rw [← hp.length_eq]; exact List.length_map ..
    clear hp hs hrw hg9
    go_wp2
    go_ret
    have hpv : (valD L').Perm (valD ys) := HP.out.map _
    exact ⟨some ⟨g5, 0, none⟩, cap5, valD L', by rw [HPL.out]; rfl, rw_val HRW.out, (fun x hx => (valD_dig x hx).len), rise_of (hpv.nodup_iff.2 HND.out) HS.out, fun y => by rw [hpv.mem_iff]; exact HALL.out y,
      HB.out.trans (bel_grown HG9.out (by have := HG5.out; omega) HB.out.size)⟩
end Go.Proofs.Ytcbjlnabbfkkeaa
namespace Go.Proofs.Ytcbjlnabbfkkeaa
open Go.ChangeShapes Go.WideShapes Go.ChangeAt Go.RowKit Go.Deep Go.Lib

/-- The digests that have been put into the set, halfway through the files. -/
structure Acd (M : List Fl) (S : List (List Int)) (left : Lit → Bool) (cnt : Nat) : Prop where
  sound : ∀ y ∈ S, ∃ f ∈ M, ∃ p ∈ f.ps, p.1 = y
  done : ∀ s f, fnd M s = some f → left (kS s) = false → ∀ p ∈ f.ps, p.1 ∈ S
  len : S.length + 40 * cnt ≤ 40960
theorem Acd.step {M : List Fl} {S : List (List Int)} {left : Lit → Bool} {cnt cnt' : Nat} {f : Fl} (h : Acd M S left cnt) (hf : fnd M f.path = some f) (hp : f.ps.length ≤ 40) (hc : cnt' < cnt) :
    Acd M (S ++ f.ps.map (·.1)) (fun z => left z && !z.sameKey (kS f.path)) cnt' := by
  refine ⟨fun y hy => ?_, fun s g hg hn p hp' => ?_, ?_⟩
  · rcases List.mem_append.1 hy with hy | hy
    · exact h.sound y hy
    · obtain ⟨p, h1, h2⟩ := List.mem_map.1 hy
      exact ⟨f, fnd_mem hf, p, h1, h2⟩
  · by_cases e : s = f.path
    · subst e
      rw [hf] at hg
      injection hg with hg
      subst hg
      exact List.mem_append_right _ (List.mem_map.2 ⟨p, hp', rfl⟩)
    · have hk : (kS s).sameKey (kS f.path) = false := Maps.sameKey_ne (kS_ne e)
      exact List.mem_append_left _ (h.done s g hg (by simpa [hk] using hn) p hp')
  · have := h.len
    rw [List.length_append, List.length_map]
    omega
theorem fnd_has {M : List Fl} (h : M.Pairwise fun f f' => f.path ≠ f'.path) : ∀ f ∈ M, fnd M f.path = some f := by
  induction M with
  | nil => intro f hf; cases hf
  | cons x M ih =>
    intro f hf
    have hp := List.pairwise_cons.1 h
    rw [fnd_cons]
    rcases List.mem_cons.1 hf with rfl | hf
    · rw [if_pos rfl]
    · rw [if_neg (hp.1 f hf)]
      exact ih hp.2 f hf
theorem own_size {w : World} {b n : Nat} {D : DataW Value} (h : w.ownsMap Try.prog 32 unitElem b n D) : Maps.size D ≤ n := by
  obtain ⟨es, clock, _, F, hs, rfl⟩ := h
  show (List.length _) ≤ n
  rw [length_sorted, List.length_map, Array.length_toList]
  exact hs
theorem pc_pre {w : World} {b : Nat} {x : Pc} (h : w.heap[b]? = some (.cells (pcC x).toArray 59)) : w.rangeAt b 0 (dgC x.1) := fun j v hv => by
  rw [Nat.zero_add, Joins.cell_of_block h j, List.getElem?_toArray]
  unfold pcC
  rw [List.getElem?_append_left (by
    have := (List.getElem?_eq_some_iff.1 hv).1
    unfold dgC at this
    exact this)]
  exact hv
theorem take_map {l : List Pc} {k : Nat} (h : k < l.length) : (l.take (k + 1)).map (·.1) = (l.take k).map (·.1) ++ [(l.getD k pc0).1] := by
  rw [List.take_succ_eq_append_getElem h, List.map_append]
  simp [List.getD, List.getElem?_eq_getElem h]
theorem zero59' : ∀ w, (zeroValue 59).run Try.prog w = .ok (.agg pcZ) w := Try.zero59
set_option maxHeartbeats 12800000 in
set_option maxRecDepth 100000 in
theorem digests_word (W : World) (n g : Nat) (M : List Fl) (B : Nat) (h : Nm B W n g M) (hP : ∀ f ∈ M, f.ps.length ≤ 40) :
    Calls Try.prog 25 #[.pointer (some ⟨n, 0, none⟩)] W fun e w' => ∃ (a : Option Addr) (cap : Nat) (A : List (List Int)), e = .returned (.slice a A.length cap) ∧ Rw 32 dgC [] w' a cap A ∧ (∀ x ∈ A, x.length = 32) ∧ RiseD A ∧ (∀ y, y ∈ A ↔ ∃ f ∈ M, ∃ p ∈ f.ps, p.1 = y) ∧ Below W.heap.size W w' := by
  have HMD := hid (made_yes W n g M B h)
  have HP := hid hP
  have HZ : Hid (∀ w, (zeroValue 77).run Try.prog w = .ok (.agg flZ.cs.toArray) w) := Try.zero77
  have HZ9 := hid zero59'
  obtain ⟨D, hD⟩ := id h
  have HD := hid hD
  have HGL := hid h.lt
  have hmm := @run_makeMap Try.prog
  have cn := (h.later (bel_alc W (.map #[] 0))).cell
  have HOW : Hid ((W.alloc (.map #[] 0)).ownsMap Try.prog 9 rdV g 1048576 D) := HD.out.own.alloc _
  have HO0 := hid (World.ownsMap_made W Try.prog 32 (unitElem (H := Value)))
  have HBM := hid (bel_alc W (.map #[] 0))
  have HS1 : Hid ((W.alloc (.map #[] 0)).heap.size = W.heap.size + 1) := by show _ = _; simp
  clear h hD hP
  go_enter Try.func25, Try.ntmps25
  go_wp2_with fail
  refine HMD.out.mono ?_
  rintro _ w0 ⟨rfl, hw⟩
  obtain rfl := hw.symm
  clear hw HMD
  go_wp2_with (first | refine wpList_range_own (W.alloc (.map #[] 0)) rfl _ 67 rfl 9 77 Try.keyed9 Try.underlying67 rdV g 1048576 D rfl HOW.out ?_ | fail)
  intro W2 hrg hg2 hs2
  try rw [HS1.out] at hrg
  try rw [HS1.out] at hs2
  try rw [HS1.out]
  obtain ⟨q, hq⟩ : ∃ q, q = W.heap.size := ⟨_, rfl⟩
  have HQ := hid hq
  rw [← hq] at hrg hs2 HO0 ⊢
  have HRG := hid hrg
  have HO2 := hid (HO0.out.kept hg2 (by simp))
  have hb2 : Below (W.alloc (.map #[] 0)).heap.size (W.alloc (.map #[] 0)) W2 := ⟨hg2.os, hg2.tape, hg2.output, hg2.size, fun i hi => hg2.block i hi (by simp)⟩
  have HB2 := hid (Bn HBM.out hb2)
  have HS2 : Hid (q + 2 ≤ W2.heap.size) := by show _ ≤ _; omega
  clear hrg hg2 hs2 hb2 hq cn HOW HO0 hmm HBM HS1
  go_wp2
  go_loopw [5] (fun _ wr => ∃ (S : List (List Int)) (D2 : DataW Value) (left : Lit → Bool) (cnt : Nat), Hid (wr.ranges Try.prog 9 rdV g (q + 1) 1048576 D left cnt) ∧ Hid (wr.ownsMap Try.prog 32 unitElem q S.length D2) ∧ Hid (Sd S D2) ∧ Hid (Acd M S left cnt) ∧ Hid (∀ kl, left kl = true → Maps.has D kl = true) ∧ Hid (Below W.heap.size W wr) ∧ Hid (q + 2 ≤ wr.heap.size)) (fun _ wr => wr.rangeLeft g (q + 1))
  case atStart =>
    refine ⟨[], _, _, _, HRG.out, HO2.out, Sd.nil, ⟨(fun y hy => by cases hy), fun s f hf hl => ?_, ?_⟩, fun _ h => h, HB2.out, HS2.out⟩
    · rw [HD.out.has, hf] at hl; cases hl
    · rw [HD.out.size]
      have := HD.out.many
      simp
      omega
  case round =>
    obtain ⟨S, D2, left, cnt, HRA, HOM, HSD, HAC, HLA, HBA, HSA⟩ := hrel
    clear HRG HB2 HS2 HO2
    go_wp2_with (first | refine wpList_next_ranges wr rfl _ rfl 9 Try.keyed9 rdV Value.string id (fun key kl hk => (by obtain ⟨s, h1, _, _⟩ := WideMaps.string_of_keyOf Try.underlying9 hk; exact ⟨s, h1⟩)) (fun v _ _ => ⟨v, rfl⟩) g (q + 1) 1048576 D left cnt rfl HRA.out ?_ ?_ | fail)
    · intro hc0 hl0
      have HM : Hid (∀ y, y ∈ S ↔ ∃ f ∈ M, ∃ p ∈ f.ps, p.1 = y) := fun y => ⟨HAC.out.sound y, fun ⟨f, hf, p, hp, e⟩ => by rw [← e]; exact HAC.out.done f.path f (fnd_has HD.out.apart f hf) (hl0 _) p hp⟩
      have HSZ : Hid (Maps.size D2 ≤ 100000) := by
        have h1 := own_size HOM.out
        have h2 := HAC.out.len
        show _ ≤ _
        omega
      clear hl0
      go_wp2_with fail
      refine (mkeys_word (some q) wr).mono ?_
      rintro _ w0 ⟨rfl, hw⟩
      have HBX := hid (heap_alc wr (.cells #[.map (some q)] 98))
      have HB9 := hid (bel_alc wr (.cells #[.map (some q)] 98))
      have HO9 : Hid ((wr.alloc (.cells #[.map (some q)] 98)).ownsMap Try.prog 32 unitElem q S.length D2) := HOM.out.alloc _
      rw [← hw] at HBX HB9 HO9
      clear hw
      go_wp2_with fail
      refine (sfunc_word w0 S wr.heap.size q S.length D2 HSD.out HBX.out HO9.out HSZ.out).mono ?_
      rintro _ w9 ⟨a, cap, A, rfl, hrw, h32, hri, hme, hb⟩
      have HRW := hid hrw
      have H32 := hid h32
      have HRI := hid hri
      have HME := hid hme
      have HB10 := hid (Bn (Bn HBA.out HB9.out) hb)
      clear hrw h32 hri hme hb
      go_wp2
      go_ret
      exact ⟨a, cap, A, rfl, HRW.out, H32.out, HRI.out, (fun y => (HME.out y).trans (HM.out y)), HB10.out⟩
    · intro x c kl y ll w' cnt' hk hl hv hat hra hcnt hgr hsz hen
      obtain ⟨s, e1, e2, _⟩ := WideMaps.string_of_keyOf Try.underlying9 hk
      obtain rfl : x = s := by injection e1
      subst e2
      obtain ⟨f, hf⟩ : ∃ f, fnd M x = some f := by
        have h1 := HLA.out _ hl
        have h2 := HD.out.has x
        unfold kS at h2
        rw [h1] at h2
        exact Option.isSome_iff_exists.1 h2.symm
      obtain rfl : c = f.val := by
        have h1 := HD.out.at_ x f hf (.held c)
        unfold kS at h1
        rw [hat] at h1
        have h2 : y = .held c := by unfold rdV at hv; injection hv with hv; injection hv with hv; exact hv.symm
        rw [h2] at h1
        injection h1
      obtain rfl : f.path = x := fnd_path hf
      have HFN := hid hf
      have h40 : f.ps.length ≤ 40 := HP.out f (fnd_mem hf)
      have HRA' := hid hra
      have HCN := hid hcnt
      have HBA' : Hid (Below W.heap.size W w') := HBA.out.trans (bel_grown hgr (by have := HQ.out; omega) HBA.out.size)
      have HSA' : Hid (q + 2 ≤ w'.heap.size) := by have := HSA.out; show _ ≤ _; omega
      have HOM' := hid (HOM.out.kept hgr (by simp))
      have HFO := hid (HD.out.ok f (fnd_mem hf))
      have HAS := hid (HAC.out.step hf (HP.out f (fnd_mem hf)) hcnt)
      have HLA' : Hid (∀ kl, (left kl && !kl.sameKey (kS f.path)) = true → Maps.has D kl = true) := fun kl h => HLA.out kl (by rw [Bool.and_eq_true] at h; exact h.1)
      have HLFT : Hid (wr.rangeLeft g (q + 1) = cnt) := HRA.out.left_eq
      clear hk hl hv hat hra hcnt hgr hsz hf e1 HBA HRA HSA HOM HAC HLA
      unfold Fl.val at hen ⊢
      go_wp2_with (first | refine wpList_alloc_W rfl 77 rfl (some 5) rfl _ HZ.out w'.heap.size rfl ?_ | fail)
      intro V1 HG1 HB1' HSz1
      go_wp2_with (first | refine wpList_store_W rfl 77 _ _ rfl rfl w'.heap.size f.cs.toArray rfl rfl 77 _ HG1.out Try.size77 rfl (Fl.one _) ?_ | fail)
      intro V2 HG2 HGR2 HSz2
      have HY2 : Hid (Below w'.heap.size w' V2) := HB1'.out.trans (bel_grown HGR2.out (Nat.le_refl _) HB1'.out.size)
      have HRG2 : Hid (V2.ranges Try.prog 9 rdV g (q + 1) 1048576 D (fun z => left z && !z.sameKey (kS f.path)) cnt') := HRA'.out.kept (grown_bel (r := none) HY2.out) (by simp) (by simp)
      have HOM2 := hid (HOM'.out.kept (grown_bel (r := none) HY2.out) (by simp))
      have HBA2 : Hid (Below W.heap.size W V2) := HBA'.out.trans (HY2.out.mono HBA'.out.size)
      have HSA2 : Hid (q + 2 ≤ V2.heap.size) := Nat.le_trans HSA'.out HY2.out.size
      obtain ⟨m, hm⟩ : ∃ m, m = f.ps.length := ⟨_, rfl⟩
      have HM := hid hm
      have hm40 : m ≤ 40 := by rw [hm]; exact h40
      have c3 : V2.cell? ⟨w'.heap.size, 3, none⟩ = some (.slice f.a m f.cap) := (Joins.cell_of_block HG2.out 3).trans (by rw [hm]; rfl)
      have hroom : m ≤ f.cap := by rw [hm]; exact HFO.out.row.room
      obtain ⟨fa, hfa⟩ : ∃ fa, fa = f.a := ⟨_, rfl⟩
      have HFA := hid hfa
      rw [← hfa] at c3
      clear HG1 HB1' HSz1 HGR2 hen HRA' HBA' HSA' HOM' HSz2 hm hfa
      go_wp2
      go_loopw [25] (fun x25 wr2 => ∃ (k : Nat) (D3 : DataW Value), k ≤ m ∧ x25 = .int .i64 (k : Int) ∧ Hid (wr2.ranges Try.prog 9 rdV g (q + 1) 1048576 D (fun z => left z && !z.sameKey (kS f.path)) cnt') ∧ Hid (wr2.ownsMap Try.prog 32 unitElem q (S ++ (f.ps.take k).map (·.1)).length D3) ∧ Hid (Sd (S ++ (f.ps.take k).map (·.1)) D3) ∧ Hid (Below W.heap.size W wr2) ∧ Hid (q + 2 ≤ wr2.heap.size)) (fun x25 _ => m - (intOf x25).toNat)
      case atStart => exact ⟨0, _, by omega, rfl, HRG2.out, (by show World.ownsMap _ _ _ _ _ _ _; simpa using HOM2.out), (by show Sd _ _; simpa using HSD.out), HBA2.out, HSA2.out⟩
      case round =>
        obtain ⟨k, D3, hkm, rfl, HRI, HOI, HSI, HBI, HZI⟩ := hrel
        clear HRG2 HOM2 HBA2 HSA2 c3
        by_cases hlt : k < m
        · have hkz : (k : Int) < (m : Int) := by omega
          have hkl : k < f.ps.length := by rw [← HM.out]; exact hlt
          obtain ⟨b, off, hab, hbw, hc⟩ := HFO.out.row.cells (by omega)
          rw [← HFA.out] at hab
          subst hab
          have HRR : Hid (wr.rangeAt b (off + k * 33) (pcC (f.ps.getD k pc0))) := range_later (hc k hkl) HBI.out hbw
          have HOK : Hid (PcOk (f.ps.getD k pc0)) := HFO.out.row.fits _ (by simp [List.getD, List.getElem?_eq_getElem hkl])
          have HTM := hid (take_map hkl)
          obtain ⟨p, hp⟩ : ∃ p, p = f.ps.getD k pc0 := ⟨_, rfl⟩
          rw [← hp] at HRR HOK HTM
          have HLP : Hid ((pcC p).length = 33) := pcC_len HOK.out.len
          have HDL : Hid ((dgC p.1).length = 32) := by show _ = _; unfold dgC; rw [List.length_map]; exact HOK.out.len
          have HKB : Hid ((S ++ (f.ps.take k).map (·.1)).length < 1000000) := by
            have h1 := HAS.out.len
            rw [List.length_append, List.length_map] at h1
            show _ < _
            rw [List.length_append, List.length_map, List.length_take]
            omega
          clear hc hp
          go_wp2_with (first | refine wpList_load_P rfl 59 _ rfl b (off + k * 33) rfl (pcC p) _ HRR.out Try.underlying59 rfl (by rw [HLP.out]; exact Try.size59) ?_ | refine wpList_alloc_W rfl 59 rfl (some 7) rfl _ HZ9.out wr.heap.size rfl ?_ | fail)
          intro V3 HG3 HB3 HS3
          go_wp2_with (first | refine wpList_store_W rfl 59 _ _ rfl rfl wr.heap.size (pcC p).toArray rfl rfl 59 _ HG3.out (by rw [List.size_toArray, HLP.out]; exact Try.size59) (by rw [List.size_toArray]; exact pcZ_size HLP.out) (all_oneCell_toArray (pcC_one p)) ?_ | fail)
          intro V4 HG4 HGR4 HS4
          have HY4 : Hid (Below wr.heap.size wr V4) := HB3.out.trans (bel_grown HGR4.out (Nat.le_refl _) HB3.out.size)
          have HRI4 : Hid (V4.ranges Try.prog 9 rdV g (q + 1) 1048576 D (fun z => left z && !z.sameKey (kS f.path)) cnt') := HRI.out.kept (grown_bel (r := none) HY4.out) (by simp) (by simp)
          have HOI4 := hid (HOI.out.kept (grown_bel (r := none) HY4.out) (by simp))
          have HBI4 : Hid (Below W.heap.size W V4) := HBI.out.trans (HY4.out.mono HBI.out.size)
          have HZI4 : Hid (q + 2 ≤ V4.heap.size) := Nat.le_trans HZI.out HY4.out.size
          have HXR := hid (pc_pre HG4.out)
          clear HG3 HB3 HS3 HGR4 HS4 HRI HOI HBI HZI
          go_wp2_with (first | refine wpList_load_P rfl 32 _ rfl wr.heap.size 0 rfl (dgC p.1) _ HXR.out Try.underlying32 rfl (by rw [HDL.out]; exact Try.size32') ?_ | (at_mapUpdate; refine wpList_mapUpdate_own V4 rfl _ _ _ 98 rfl 32 99 Try.keyed32 Try.underlying98 unitElem q _ D3 rfl HOI4.out (by have := HKB.out; unfold maxLen; omega) (.agg (dgC p.1).toArray) (.agg #[]) (kD p.1) rfl rfl (key_dig HOK.out.dig) (.agg []) [] unitElem_mk ?_) | fail)
          intro V5 hown5 hgr5
          have HOI5 : Hid (V5.ownsMap Try.prog 32 unitElem q (S ++ (f.ps.take (k + 1)).map (·.1)).length (D3.put (kD p.1) (.agg []))) := by
            show World.ownsMap _ _ _ _ _ _ _
            rw [HTM.out, ← List.append_assoc, List.length_append]
            simpa using hown5
          have HSI5 : Hid (Sd (S ++ (f.ps.take (k + 1)).map (·.1)) (D3.put (kD p.1) (.agg []))) := by
            show Sd _ _
            rw [HTM.out, ← List.append_assoc]
            exact HSI.out.put HOI4.out.isMap HOK.out.dig _
          have HRI5 := hid (HRI4.out.kept hgr5 (by intro e; injection e with e; have h1 := HGL.out; have h2 := HQ.out; omega) (by intro e; injection e with e; omega))
          have HBI5 : Hid (Below W.heap.size W V5) := HBI4.out.grown hgr5 HBI4.out.size (fun j hj => by injection hj with hj; have := HQ.out; omega)
          have HZI5 : Hid (q + 2 ≤ V5.heap.size) := Nat.le_trans HZI4.out hgr5.size
          clear hown5 hgr5 HKB
          go_wp2
          go_roundw
          case rel => exact ⟨k + 1, _, by omega, by go_num, HRI5.out, HOI5.out, HSI5.out, HBI5.out, HZI5.out⟩
          case measure => simp [intOf]; omega
        · have hke : k = m := by omega
          have hkz : ¬ (k : Int) < (m : Int) := by omega
          have HTK : Hid (f.ps.take k = f.ps) := List.take_of_length_le (by rw [← HM.out]; omega)
          rw [HTK.out] at HOI HSI
          have HME : Hid (wr.rangeLeft g (q + 1) < cnt) := by show _ < _; rw [HRI.out.left_eq]; exact HCN.out
          go_wp2
          go_roundw
          case rel => exact ⟨S ++ f.ps.map (·.1), D3, _, cnt', HRI.out, HOI.out, HSI.out, HAS.out, HLA'.out, HBI.out, HZI.out⟩
          case measure => rw [HLFT.out]; exact HME.out
end Go.Proofs.Ytcbjlnabbfkkeaa
