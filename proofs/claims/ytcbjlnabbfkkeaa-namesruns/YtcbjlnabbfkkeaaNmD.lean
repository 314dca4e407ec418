/-
  What a record puts: the contract of put.
-/
import Derived.Test.YtcbjlnabbfkkeaaNmB
import Derived.Test.YtcbjlnabbfkkeaaShelf
namespace Go.Proofs.Ytcbjlnabbfkkeaa
open Go.ChangeShapes Go.WideShapes Go.ChangeAt Go.RowKit Go.Deep Go.Lib

theorem clone_str (s : ByteArray) (w : World) (hs : s.size ≤ 255) : Calls Try.prog 54 #[.string s] w fun e w' => e = .returned (.string s) ∧ Below w.heap.size w w' := by
  have HC := hid (Try.stringslite_Clone s w (by omega))
  clear hs
  go_enter Try.func54, Try.ntmps54
  go_wp2_with fail
  refine HC.out.mono ?_
  rintro _ W1 ⟨rfl, hb⟩
  have HB := hid hb
  clear hb HC
  go_wp2
  go_ret
  exact ⟨rfl, HB.out⟩
theorem Try.info3 : (Try.prog.info? 3).map (fun i => (i.zero, i.size, i.bytes)) = some (some (.int .i64 0), 1, 8) := by kernel_rfl
/-- An append of one number to an own row of numbers. -/
theorem wpList_app75 {w : World} {ops : Array Oper} {rest : List Oper} {o : Oper} {ac : Act} {Q : Exit → Act → World → Prop} (hgd : o.guard = none) (s x : Operand) (ho : o.op = .call { callee := .builtin .append, args := #[s, x], argTypes := #[75, 75] })
    (B : Nat) (v : Value) (l : List Int) (hs : ac.eval s = v) (hown : w.ownsRow B 3 1 v l.length (l.map (Value.int .i64))) (g : Nat) (z : Int) (hx : ac.eval x = .slice (some ⟨g, 0, none⟩) 1 1) (hc : w.cell? ⟨g, 0, none⟩ = some (.int .i64 z)) (hl : l.length < 100000) (hB : B ≤ w.heap.size)
    (h : ∀ v' w', Hid (w'.ownsRow B 3 1 v' (l ++ [z]).length ((l ++ [z]).map (Value.int .i64))) → Hid (Below B w w') → wpList Try.prog ops Q rest (ac.put o.dst v') w') : wpList Try.prog ops Q (o :: rest) ac w := by
  obtain ⟨i0, hi, hz0, hz1, hz2⟩ := info_parts Try.info3
  refine wpList_append_own _ hgd s x 75 ho B 3 i0 (.int .i64 0) 1 8 Try.underlying75 hi hz0 hz1 hz2 rfl (by decide) v l.length _ hs hown ⟨g, 0, none⟩ 1 1 [.int .i64 z] hx rfl ?_ ?_ (by unfold maxLen; omega) (by omega) hB ?_
  · intro j u hj
    match j, hj with
    | 0, hj => simp at hj; subst hj; simpa [Addr.add] using hc
  · intro u hu; simp at hu; subst hu; rfl
  · intro v' w' ho' hg _
    exact h v' w' (by show World.ownsRow _ _ _ _ _ _ _; simpa using ho') ((Below.refl B w).grown hg hB (fun j hj => (hown.lt j hj).1))
theorem wp_alloc_W {P : Program} {o : Oper} {a : Act} {w : World} {K : Act → World → Prop} {Q : Exit → Act → World → Prop} (ty : TypeId) (ho : o.op = .alloc ty) (cs : Array Value) (hz : ∀ w, (zeroValue ty).run P w = .ok (.agg cs) w) (d : Option Tmp) (hd : o.dst = d) (N : Nat) (hN : N = w.heap.size)
    (h : ∀ W', Hid (W'.heap[N]? = some (.cells cs ty)) → Hid (Below N w W') → Hid (W'.heap.size = N + 1) → K (a.put d (.pointer (some ⟨N, 0, none⟩))) W') : o.wp P a w K Q := by
  subst hd hN
  unfold Oper.wp execOp
  simp only [ho, Sem.run_bind, Instr.alloc, hz, newVar, newRow, run_newObj_alloc, Sem.run_pure, Result.andThen_ok, Value.cells]
  exact h _ (heap_alc w _) (bel_alc w _) (by show _ = _; simp)
theorem wp_store_W {P : Program} {o : Oper} {a : Act} {w : World} {K : Act → World → Prop} {Q : Exit → Act → World → Prop} (ty : TypeId) (x y : Operand) (ho : o.op = .store ty x y)
    (g : Nat) (cells : Array Value) (hx : a.eval x = .pointer (some ⟨g, 0, none⟩)) (hy : a.eval y = .agg cells) (t : TypeId) (old : Array Value) (hg : w.heap[g]? = some (.cells old t (0, 0))) (hi : (P.info? ty).map (·.size) = some cells.size)
    (hold : old.size = cells.size) (h1 : cells.all (·.oneCell') = true)
    (h : ∀ W', Hid (W'.heap[g]? = some (.cells cells t)) → Hid (w.grownBy W' (some g)) → Hid (W'.heap.size = w.heap.size) → K (a.put o.dst undef) W') : o.wp P a w K Q := by
  refine wp_store_row ty x y ho g cells hx hy t old hg hi hold h1 (h _ ?_ ?_ ?_)
  · exact setRow_heap _ _ old _ t (0, 0) hg
  · exact ⟨rfl, rfl, rfl, by rw [setRow_size]; exact Nat.le_refl _, fun k _ hk => other_setRow w g cells k (fun e => hk (by rw [e]))⟩
  · exact setRow_size ..
/-- Pieces lie in no block without bytes. -/
theorem Rp.ne {w : World} {a : Option Addr} {cap G : Nat} {l : List Pc} {C : List Value} {t : TypeId} (h : Rp w a cap l) (hg : w.heap[G]? = some (.cells C.toArray t)) (hC : ∀ u ∈ C, ∀ z, u ≠ .int .u8 z) (h0 : 0 < l.length) (b off : Nat) (ha : a = some ⟨b, off, none⟩) : b ≠ G := by
  intro e
  subst e
  obtain ⟨b', off', ha', _, hc⟩ := h.cells h0
  rw [ha] at ha'
  injection ha' with ha'
  injection ha' with h1 h2
  subst h1 h2
  have h3 := hc 0 h0 0 (.int .u8 ((l.getD 0 pc0).1.getD 0 0)) (pcC_d (h.get h0).len 0 (by omega))
  simp only [Nat.zero_mul, Nat.add_zero] at h3
  rw [Joins.cell_of_block hg off, List.getElem?_toArray] at h3
  exact hC _ (List.mem_of_getElem? h3) _ rfl
theorem Rp.grown {w w' : World} {a : Option Addr} {cap G : Nat} {l : List Pc} (h : Rp w a cap l) (hg : w.grownBy w' (some G)) (hne : 0 < l.length → ∀ b off, a = some ⟨b, off, none⟩ → b ≠ G) : Rp w' a cap l := by
  refine ⟨h.room, h.most, h.none0, fun h0 => ?_, h.fits⟩
  obtain ⟨b, off, ha, hbw, hc⟩ := h.cells h0
  have hb := hg.block b hbw (fun e => hne h0 b off ha (by injection e))
  refine ⟨b, off, ha, Nat.lt_of_lt_of_le hbw hg.size, fun j hj i v hv => ?_⟩
  rw [World.cell?_of_block (w' := w') (w := w) hb]
  exact hc j hj i v hv
theorem Fl.no8 (f : Fl) : ∀ u ∈ f.cs, ∀ z, u ≠ .int .u8 z := by
  intro u hu z
  simp only [Fl.cs, List.mem_cons, List.not_mem_nil, or_false] at hu
  rcases hu with rfl | rfl | rfl | rfl | rfl <;> (intro e; cases e)
/-- The file that a record puts, with its ends so far. -/
def fC (r : Rec) (a : Option Addr) (cap : Nat) (e : Option Addr) (k ec : Nat) : List Value := [.string r.path, .int .i64 (sumP r.ps), .int .i64 r.seq, .slice a r.ps.length cap, .slice e k ec]
theorem fC_one (r : Rec) (a : Option Addr) (cap : Nat) (e : Option Addr) (k ec : Nat) : (fC r a cap e k ec).toArray.all (·.oneCell') = true := by simp [fC, Value.oneCell']
theorem fC_no8 (r : Rec) (a : Option Addr) (cap : Nat) (e : Option Addr) (k ec : Nat) : ∀ u ∈ fC r a cap e k ec, ∀ z, u ≠ .int .u8 z := by
  intro u hu z
  simp only [fC, List.mem_cons, List.not_mem_nil, or_false] at hu
  rcases hu with rfl | rfl | rfl | rfl | rfl <;> (intro e; cases e)
theorem own_grown {w w' : World} {B G e size n : Nat} {v : Value} {xs : List Value} (h : w.ownsRow B e size v n xs) (hg : w.grownBy w' (some G)) (hG : G < B) : w'.ownsRow B e size v n xs := by
  refine h.kept hg ?_
  cases hv : v.ownBlock with
  | none => exact .inl rfl
  | some j =>
    right
    intro e
    injection e with e
    have := (h.lt j hv).1
    omega
theorem grown_setCell (w : World) (G i : Nat) (v : Value) : w.grownBy (w.setCell ⟨G, i, none⟩ v) (some G) := by
  have hb := (Below.refl 0 w).setCell (p := ⟨G, i, none⟩) (Nat.zero_le _) v
  exact ⟨hb.os, hb.tape, hb.output, hb.size, fun j _ hne => Deep.blk_setCell_other _ _ _ _ (fun e => hne (by rw [e]))⟩
theorem ends_in : ∀ (l : List Pc) (s : Int), l.all nOk = true → ∀ z ∈ endsL s l, s ≤ z ∧ z ≤ s + sumP l
  | [], _, _ => fun z hz => by cases hz
  | x :: l, s, h => by
    rw [List.all_cons, Bool.and_eq_true] at h
    have hx : 1 ≤ x.2 ∧ x.2 ≤ 4096 := of_decide_eq_true h.1
    have hp := (sumP_bound l h.2).1
    intro z hz
    simp only [endsL, List.mem_cons, sumP] at hz ⊢
    rcases hz with rfl | hz
    · omega
    · have := ends_in l (s + x.2) h.2 z hz
      omega
theorem ends_fit (l : List Pc) (h : l.all nOk = true) (h2 : l.length ≤ 100000) (j : Nat) : (Lit.int .i64 ((endsL 0 l).getD j 0)).wf = true := by
  by_cases hj : j < (endsL 0 l).length
  · have hm : (endsL 0 l).getD j 0 ∈ endsL 0 l := by
      simp only [List.getD, List.getElem?_eq_getElem hj, Option.getD_some]
      exact List.getElem_mem hj
    have h1 := ends_in l 0 h _ hm
    have h3 := (sumP_bound l h).2
    exact wf_mk_i64 (by omega) (by omega)
  · rw [getD_out _ _ (by omega)]; exact wf_zero _
theorem all_take (l : List Pc) (h : l.all nOk = true) (k : Nat) : (l.take k).all nOk = true := by
  rw [List.all_eq_true]; intro y hy; exact List.all_eq_true.1 h y (List.mem_of_mem_take hy)
def PutF (W2 : World) (r : Rec) (V : World) (G : Nat) : Prop :=
  ∃ a cap, V.heap[G]? = some (.cells (fC r a cap none 0 0).toArray 77) ∧ W2.heap.size ≤ G ∧ Rp V a cap r.ps ∧ (∀ b off, a = some ⟨b, off, none⟩ → W2.heap.size ≤ b) ∧ Below W2.heap.size W2 V
set_option maxHeartbeats 6400000 in
set_option maxRecDepth 100000 in
theorem put_word (r : Rec) (w : World) (h : Rv w r) (hm : mayB r = true) (hk : r.kind = 2) :
    Calls Try.prog 30 #[.agg r.cs.toArray] w fun e w' => ∃ f : Fl, e = .returned f.val ∧ Fok w' f ∧ Fat w.heap.size f ∧ f.path = r.path ∧ f.seq = r.seq ∧ f.ps = r.ps ∧ Below w.heap.size w w' := by
  obtain ⟨hs1, he1, hkb⟩ := may_parts hm
  obtain ⟨_, hp, hsz, _⟩ := kind_file' hkb (by omega)
  have hpp := path_parts hp
  have hsp := siz_parts hsz
  have hSZ : (sizO r.ps).1 = sumP r.ps ∧ sumP r.ps ≤ 1048576 := by
    unfold sizO at hsz ⊢
    rw [if_neg (by omega), if_pos hsp.2] at hsz ⊢
    by_cases hc : 1048576 < sumP r.ps
    · rw [if_pos hc] at hsz; cases hsz
    · rw [if_neg hc]; exact ⟨rfl, by omega⟩
  have HZ : Hid (∀ w, (zeroValue 77).run Try.prog w = .ok (.agg flZ.cs.toArray) w) := Try.zero77
  have HS1 : Hid (w.heap.size + 1 = (w.alloc (.cells r.cs.toArray 36)).heap.size) := by show _ = _; simp
  have HX0 := hid (Bx.mk' w r h.len)
  have HR := hid h
  have HSW := hid (fun V hV => size_word r.a r.cap r.ps V (h.row.later hV))
  rw [hSZ.1, hsz] at HSW
  have HPS := hid (And.intro hpp (And.intro hsp hSZ.2))
  have HSQ := hid hs1
  clear h hm hk hkb hp hsz hpp hsp hSZ he1 hs1
  go_enter Try.func30, Try.ntmps30
  go_wp2_with (first | refine wpList_alloc_W rfl 77 rfl (some 2) rfl _ HZ.out (w.heap.size + 1) HS1.out ?_ | fail)
  intro W1 HG1 HB1 HSz1
  have BX1 : Bx W1 w.heap.size r := HX0.out.later (by rw [← HS1.out]; exact HB1.out)
  have HBw1 : Hid (Below w.heap.size w W1) := (bel_alc w _).trans (HB1.out.mono (Nat.le_succ _))
  have c37 := BX1.c37
  have HBX1 := hid BX1
  clear BX1
  go_wp2_with fail
  refine (HSW.out _ HBw1.out).mono ?_
  rintro _ W2 ⟨rfl, hb2⟩
  have HB2 := hid hb2
  have HBX2 := hid (HBX1.out.later hb2)
  clear hb2 c37 HSW
  go_wp2_with fail
  refine Code.wp_mono (Q := fun e a V => e = .normal ∧ ∃ (G : Nat) (x15 x16 x17 x18 x19 x20 x21 x22 x23 x24 x25 : Value), a = ⟨#[.agg r.cs.toArray, .pointer (some ⟨w.heap.size, 0, none⟩), .pointer (some ⟨w.heap.size + 1, 0, none⟩), .int .i64 (sumP r.ps), .int .i64 0, .pointer (some ⟨G, 0, none⟩), undef, undef, undef, .tuple #[.int .i64 (sumP r.ps), .int .i64 0], .pointer (some ⟨w.heap.size, 37, none⟩), .slice r.a r.ps.length r.cap, .tuple #[.int .i64 (sumP r.ps), .int .i64 0], .int .i64 (sumP r.ps), .int .i64 0, x15, x16, x17, x18, x19, x20, x21, x22, x23, x24, x25, undef, undef, undef, undef, undef, undef, undef, undef, undef, undef, undef, undef, undef, undef, undef, undef, undef, undef, undef], []⟩ ∧ PutF W2 r V G) ?_ ?_
  · intro e a V hq
    obtain ⟨rfl, G, x15, x16, x17, x18, x19, x20, x21, x22, x23, x24, x25, rfl, HF⟩ := hq
    obtain ⟨a', cap', HGV', hG0, hrp, hfar, hbv⟩ := HF
    have HGV := hid HGV'
    have HG0 := hid hG0
    have HRP := hid hrp
    have HFAR := hid hfar
    have HBV := hid (Bn HBw1.out (Bn HB2.out hbv))
    have HN1 := hid (blk_later HG1.out (Bn HB2.out hbv))
    have HGL := hid (blk_lt HGV')
    have HNG : Hid (w.heap.size + 1 < G) := by
      have h1 := HB2.out.size
      have h2 := HSz1.out
      show _ < _
      omega
    have BXV := HBX2.out.later hbv
    have c37 := BXV.c37
    obtain ⟨len, hle⟩ : ∃ n, n = r.ps.length := ⟨_, rfl⟩
    have HL := hid hle
    have hn4 : len ≤ 4096 := by rw [hle]; exact HPS.out.2.1.1
    rw [← hle] at c37
    obtain ⟨l, hl⟩ : ∃ l, l = r.ps := ⟨_, rfl⟩
    have HLL := hid hl
    have HROW : Hid (Rp w r.a r.cap l) := by rw [hl]; exact HR.out.row
    have HALL : Hid (l.all nOk = true) := by rw [hl]; exact HPS.out.2.1.2
    have hlen2 : len = l.length := by rw [hle, hl]
    have HL2 := hid hlen2
    obtain ⟨ra, hra⟩ : ∃ x, x = r.a := ⟨_, rfl⟩
    obtain ⟨rc, hrc⟩ : ∃ x, x = r.cap := ⟨_, rfl⟩
    rw [← hra, ← hrc] at c37 HROW
    have hroom : len ≤ rc := by rw [hlen2]; exact HROW.out.room
    have hmost := HROW.out.most
    unfold maxLen at hmost
    clear HGV' hG0 hrp hfar hbv BXV HBX1 HBX2 hle hl hlen2 hra hrc HB1
    go_wp2
    go_loopw [6, 29] (fun x6 x29 wr => ∃ k : Nat, k ≤ len ∧ x29 = .int .i64 (k : Int) ∧ x6 = .int .i64 (sumP (l.take k)) ∧ ∃ (e : Option Addr) (ec : Nat), Hid (wr.heap[G]? = some (.cells (fC r a' cap' e k ec).toArray 77)) ∧ Hid (wr.ownsRow V.heap.size 3 1 (.slice e k ec) (endsL 0 (l.take k)).length ((endsL 0 (l.take k)).map (Value.int .i64))) ∧ Hid (Rp wr a' cap' r.ps) ∧ Hid (Below w.heap.size w wr) ∧ Hid (wr.heap[w.heap.size + 1]? = some (.cells flZ.cs.toArray 77)) ∧ Hid (V.heap.size ≤ wr.heap.size)) (fun _ x29 _ => len - (intOf x29).toNat)
    case atStart => exact ⟨0, by omega, rfl, rfl, none, 0, HGV.out, World.ownsRow_nil _ _ _ _, HRP.out, HBV.out, HN1.out, Nat.le_refl _⟩
    case round =>
      obtain ⟨k, hk, rfl, rfl, e, ec, HGW, HO, HRW, HBW, HNW, HVW⟩ := hrel
      clear c37
      have hel : (endsL 0 (l.take k)).length = k := by rw [ends_len]; simp; rw [← HL2.out]; omega
      have HEL := hid hel
      clear hel
      have hsb := sumP_bound (l.take k) (by rw [List.all_eq_true]; intro y hy; exact List.all_eq_true.1 HALL.out y (List.mem_of_mem_take hy))
      have htl : (l.take k).length ≤ 4096 := by simp; omega
      by_cases hlt : k < len
      · have hkz : (k : Int) < (len : Int) := by omega
        obtain ⟨b, off, hab, hbw, hc⟩ := HROW.out.cells (by rw [← HL2.out]; omega)
        subst hab
        have hrg := (hc k (by rw [← HL2.out]; exact hlt))
        have HRG : Hid (wr.rangeAt b (off + k * 33) (pcC (l.getD k pc0))) := fun j v hv => (HBW.out.cell (p := ⟨b, off + k * 33 + j, none⟩) hbw).trans (hrg j v hv)
        have hok := HROW.out.get (j := k) (by rw [← HL2.out]; exact hlt)
        have HTK := hid (take_pc l k (by rw [← HL2.out]; exact hlt))
        have hnk : nOk (l.getD k pc0) = true := List.all_eq_true.1 HALL.out _ (by simp [List.getD, List.getElem?_eq_getElem (show k < l.length by rw [← HL2.out]; exact hlt)])
        generalize l.getD k pc0 = x at *
        have hx1 : 1 ≤ x.2 ∧ x.2 ≤ 4096 := of_decide_eq_true hnk
        have hx2 := hx1.1
        have hx3 := hx1.2
        have HLP := hid (pcC_len hok.len)
        have HE : Hid ((wr.alloc (.cells (pcC x).toArray 59)).heap[wr.heap.size]? = some (.cells (pcC x).toArray 59)) := heap_alc _ _
        have hcn : (wr.alloc (.cells (pcC x).toArray 59)).cell? ⟨wr.heap.size, 32, none⟩ = some (.int .i64 x.2) := (Joins.cell_of_block HE.out 32).trans (by rw [List.getElem?_toArray]; exact pcC_n hok.len)
        have HGA := hid (heap_old wr (.cells (pcC x).toArray 59) HGW.out)
        have hg4 : (wr.alloc (.cells (pcC x).toArray 59)).cell? ⟨G, 4, none⟩ = some (.slice e k ec) := (Joins.cell_of_block HGA.out 4).trans rfl
        have HEND : Hid (endsL 0 (l.take (k + 1)) = endsL 0 (l.take k) ++ [sumP (l.take k) + x.2]) := by show _ = _; rw [HTK.out, ends_app]; simp
        clear hrg hc hok hnk hx1
        obtain ⟨S, hS⟩ : ∃ S, S = sumP (l.take k) := ⟨_, rfl⟩
        have HS := hid hS
        rw [← hS] at hsb HEND ⊢
        clear hS
        go_wp2_with (first | refine wpList_load_mid rfl 59 _ rfl b (off + k * 33) rfl (pcC x) _ HRG.out Try.underlying59 rfl (by rw [HLP.out]; exact Try.size59) ?_ | refine wpList_alloc_at rfl 59 rfl (some 8) rfl _ Try.zero59 wr.heap.size rfl ?_ | refine wpList_store_new rfl 59 _ _ rfl rfl wr pcZ (pcC x).toArray rfl rfl rfl (by rw [List.size_toArray, HLP.out]; exact Try.size59) (pcZ_size HLP.out) (all_oneCell_toArray (pcC_one x)) ?_ | (at_builtin; refine wpList_app75 rfl _ _ rfl V.heap.size (.slice e k ec) (endsL 0 (l.take k)) rfl ((HO.out.alloc _).alloc _) _ (S + x.2) rfl (by simp) (by rw [HEL.out]; omega) (by have := HVW.out; simp; omega) ?_) | fail)
        intro v5 W5 HO5 HB5
        have HO5' : Hid (W5.ownsRow V.heap.size 3 1 v5 (endsL 0 (l.take (k + 1))).length ((endsL 0 (l.take (k + 1))).map (Value.int .i64))) := by
          show World.ownsRow _ _ _ _ _ _ _
          rw [HEND.out, List.length_append, List.map_append]
          simpa using HO5.out
        clear HO5
        have HO5 := HO5'
        clear HO5'
        obtain ⟨e5, ec5, hv5, hr5⟩ := Ri.own HO5.out (ends_fit _ (all_take l HALL.out _) (by simp; omega))
        have hel5 : (endsL 0 (l.take (k + 1))).length = k + 1 := by rw [ends_len]; simp; rw [← HL2.out]; omega
        rw [hel5] at hv5
        subst hv5
        have HG5 : Hid (W5.heap[G]? = some (.cells (fC r a' cap' e k ec).toArray 77)) := (HB5.out.block _ HGL.out).trans (heap_old _ _ HGA.out)
        have hg5 : W5.cell? ⟨G, 4, none⟩ = some (.slice e k ec) := (Joins.cell_of_block HG5.out 4).trans rfl
        have u5 := Joins.unfrozen_of_block HG5.out 4
        have HVW5 : Hid (V.heap.size ≤ W5.heap.size) := by
          have h1 := HVW.out
          have h2 := HB5.out.size
          show _ ≤ _
          simp at h2
          omega
        have HBa := hid ((bel_alc wr (.cells (pcC x).toArray 59)).trans ((bel_alc (wr.alloc (.cells (pcC x).toArray 59)) (.cells #[.int .i64 (S + x.2)] 3)).mono (by simp)))
        have HBV5 : Hid (Below V.heap.size wr W5) := (HBa.out.mono HVW.out).trans HB5.out
        have HN5 : Hid (W5.heap[w.heap.size + 1]? = some (.cells flZ.cs.toArray 77)) := (HBV5.out.block _ (by have h1 := HNG.out; have h2 := HGL.out; omega)).trans HNW.out
        have HBW5 : Hid (Below w.heap.size w W5) := HBW.out.trans (HBV5.out.mono (by have h1 := HNG.out; have h2 := HGL.out; omega))
        have HRW5 : Hid (Rp W5 a' cap' r.ps) := by
          refine ⟨HRW.out.room, HRW.out.most, HRW.out.none0, fun h0 => ?_, HRW.out.fits⟩
          obtain ⟨b1, o1, ha1, hb1, _⟩ := HRP.out.cells h0
          obtain ⟨b2, o2, ha2, hb2, hc2⟩ := HRW.out.cells h0
          have e1 : b1 = b2 := by rw [ha1] at ha2; injection ha2 with e; injection e
          have hlt2 : b2 < V.heap.size := by rw [← e1]; exact hb1
          exact ⟨b2, o2, ha2, Nat.lt_of_lt_of_le hlt2 HVW5.out, fun j hj i u hu => (HBV5.out.cell (p := ⟨b2, _, none⟩) hlt2).trans (hc2 j hj i u hu)⟩
        have HG6 : Hid ((W5.setCell ⟨G, 4, none⟩ (.slice e5 (k + 1) ec5)).heap[G]? = some (.cells (fC r a' cap' e5 (k + 1) ec5).toArray 77)) := (Joins.block_setCell HG5.out _).trans rfl
        have HGS := hid (grown_setCell W5 G 4 (.slice e5 (k + 1) ec5))
        have HO6 := hid (own_grown HO5.out HGS.out HGL.out)
        rw [hel5] at HO6
        have HR6 := hid (HRW5.out.grown HGS.out (fun h0 b o e => HRW5.out.ne HG5.out (fC_no8 _ _ _ _ _ _) h0 b o e))
        have HB6 : Hid (Below w.heap.size w (W5.setCell ⟨G, 4, none⟩ (.slice e5 (k + 1) ec5))) := HBW5.out.trans (bel_grown HGS.out (by have h1 := HNG.out; omega) HBW5.out.size)
        have HN6 : Hid ((W5.setCell ⟨G, 4, none⟩ (.slice e5 (k + 1) ec5)).heap[w.heap.size + 1]? = some (.cells flZ.cs.toArray 77)) := (HGS.out.block _ (blk_lt HN5.out) (fun e => by injection e with e; have h1 := HNG.out; omega)).trans HN5.out
        clear hr5 HO HEL HO5
        go_wp2
        go_round
        case rel => exact ⟨k + 1, by omega, by go_num, by rw [HTK.out, sumP_app, HS.out]; simp [sumP], e5, ec5, HG6.out, by show World.ownsRow _ _ _ _ _ _ _; rw [hel5]; exact HO6.out, HR6.out, HB6.out, HN6.out, Nat.le_trans HVW5.out HGS.out.size⟩
        case measure => simp [intOf]; omega
      · have hkl : k = len := by omega
        have HT : Hid (l.take k = l) := List.take_of_length_le (by rw [← HL2.out]; omega)
        rw [HT.out] at HO hsb HEL ⊢
        have HFC : Hid (wr.rangeAt G 0 (fC r a' cap' e k ec)) := blk_range HGW.out
        obtain ⟨S, hS⟩ : ∃ S, S = sumP l := ⟨_, rfl⟩
        rw [← hS] at hsb ⊢
        have hnz : ¬ (k : Int) < (len : Int) := by omega
        have hgl := hid HGL.out
        have HNGG := hid (blk_lt HNW.out)
        clear hS
        go_wp2_with (first | refine wpList_load_g rfl 77 _ rfl G 0 rfl (fC r a' cap' e k ec) _ HFC.out Try.underlying77 rfl Try.size77 ?_ | refine wpList_store_W rfl 77 _ _ rfl rfl (w.heap.size + 1) (fC r a' cap' e k ec).toArray rfl rfl 77 _ HNW.out Try.size77 rfl (fC_one ..) ?_ | fail)
        intro W7 HG7 HB7 HS7
        go_wp2
        have hkl2 : k = r.ps.length := by rw [hkl]; exact HL.out
        have hlr : l = r.ps := HLL.out
        obtain ⟨e7, ec7, hv7, hr7⟩ := Ri.own HO.out (ends_fit l HALL.out (by rw [← HL2.out]; omega))
        rw [HEL.out] at hv7
        injection hv7 with h71 h72 h73
        subst h71 h73
        have hge : ∀ b off, e = some ⟨b, off, none⟩ → V.heap.size ≤ b := fun b off he => by
          have hv : (Value.slice e k ec).ownBlock = some b := by rw [he]; rfl
          exact (HO.out.lt b hv).1
        refine bodyPost_ret (results_cell_row (ty := 77) rfl _ _ _ _ _ _ _ rfl HG7.out Try.underlying77 rfl Try.size77) rfl ⟨⟨r.path, sumP r.ps, r.seq, r.ps, a', cap', e, ec⟩, ?_, ?_, ?_, rfl, rfl, rfl, ?_⟩
        · rw [HL.out]; rfl
        · refine ⟨HPS.out.1.2, HSQ.out, rfl, HPS.out.2.2, HPS.out.2.1.1, HPS.out.2.1.2, HRW.out.grown HB7.out (fun h0 b o ee => HRW.out.ne HNW.out (Fl.no8 _) h0 b o ee), ?_⟩
          show Ri W7 .i64 e ec (endsL 0 r.ps)
          rw [← hlr]
          exact hr7.grown HB7.out (fun b off he => by
            have h1 := hge b off he
            have h2 := HNG.out
            have h3 := HGL.out
            intro e1
            injection e1 with e1
            omega)
        · refine ⟨fun b off h => ?_, fun b off h => ?_⟩
          · have h1 := HFAR.out b off h
            have h2 := HB2.out.size
            have h3 := HBw1.out.size
            omega
          · have h1 := hge b off h
            have h2 := HBV.out.size
            omega
        · exact HBW.out.trans (bel_grown HB7.out (Nat.le_succ _) HBW.out.size)
  · refine wp_region_held_drew (S := fun V => Below W2.heap.size W2 V) (by kernel_rfl) (Below.refl _ _).drew (fun hS0 => ?_)
    generalize W2.drew = v0 at *
    simp only [List.size_toArray, List.length_cons, List.length_nil, Nat.reduceAdd]
    refine Ord.take (i := 0) (d := 15) (v := ?vA0) rfl rfl (by as_aux_lemma => kernel_rfl) (by as_aux_lemma => kernel_rfl) (by as_aux_lemma => kernel_rfl) (fun _ _ _ h => by cases h.1) (by rfl) ?hA0 (by assumption) ?_
    case hA0 => intro w hSw; go_simp; try with_reducible rfl
    simp only [List.setIfInBounds_toArray, List.set_cons_zero, List.set_cons_succ]
    refine Ord.take (i := 1) (d := 16) (v := ?vA1) rfl rfl (by as_aux_lemma => kernel_rfl) (by as_aux_lemma => kernel_rfl) (by as_aux_lemma => kernel_rfl) (fun _ _ _ h => by cases h.1) (by rfl) ?hA1 (by assumption) ?_
    case hA1 => intro w hSw; have hc := (HBX2.out.later hSw).c36; go_simp; try with_reducible rfl
    simp only [List.setIfInBounds_toArray, List.set_cons_zero, List.set_cons_succ]
    refine Ord.take (i := 3) (d := 18) (v := ?vA3) rfl rfl (by as_aux_lemma => kernel_rfl) (by as_aux_lemma => kernel_rfl) (by as_aux_lemma => kernel_rfl) (fun _ _ _ h => by cases h.1) (by rfl) ?hA3 (by assumption) ?_
    case hA3 => intro w hSw; go_simp; try with_reducible rfl
    simp only [List.setIfInBounds_toArray, List.set_cons_zero, List.set_cons_succ]
    refine Ord.take (i := 4) (d := 19) (v := ?vA4) rfl rfl (by as_aux_lemma => kernel_rfl) (by as_aux_lemma => kernel_rfl) (by as_aux_lemma => kernel_rfl) (fun _ _ _ h => by cases h.1) (by rfl) ?hA4 (by assumption) ?_
    case hA4 => intro w hSw; go_simp; try with_reducible rfl
    simp only [List.setIfInBounds_toArray, List.set_cons_zero, List.set_cons_succ]
    refine Ord.take (i := 5) (d := 20) (v := ?vA5) rfl rfl (by as_aux_lemma => kernel_rfl) (by as_aux_lemma => kernel_rfl) (by as_aux_lemma => kernel_rfl) (fun _ _ _ h => by cases h.1) (by rfl) ?hA5 (by assumption) ?_
    case hA5 => intro w hSw; have hc := (HBX2.out.later hSw).c0; go_simp; try with_reducible rfl
    simp only [List.setIfInBounds_toArray, List.set_cons_zero, List.set_cons_succ]
    refine Ord.take (i := 6) (d := 21) (v := ?vA6) rfl rfl (by as_aux_lemma => kernel_rfl) (by as_aux_lemma => kernel_rfl) (by as_aux_lemma => kernel_rfl) (fun _ _ _ h => by cases h.1) (by rfl) ?hA6 (by assumption) ?_
    case hA6 => intro w hSw; go_simp; try with_reducible rfl
    simp only [List.setIfInBounds_toArray, List.set_cons_zero, List.set_cons_succ]
    refine Ord.take (i := 7) (d := 22) (v := ?vA7) rfl rfl (by as_aux_lemma => kernel_rfl) (by as_aux_lemma => kernel_rfl) (by as_aux_lemma => kernel_rfl) (fun _ _ _ h => by cases h.1) (by rfl) ?hA7 (by assumption) ?_
    case hA7 => intro w hSw; have hc := (HBX2.out.later hSw).c37; go_simp; try with_reducible rfl
    simp only [List.setIfInBounds_toArray, List.set_cons_zero, List.set_cons_succ]
    refine wpAnyH_ready (rs := [2, 11]) (by as_aux_lemma => kernel_rfl) (by simp) (AllReadyH.cons rfl (fun K hK => ?_) (AllReadyH.cons rfl (fun K hK => ?_) (AllReadyH.nil)))
    · go_simp
      refine (clone_str r.path v0 HPS.out.1.2).mono ?_
      rintro _ v1 ⟨rfl, hb1⟩
      have hS1 := Bn hS0 hb1
      refine hK.out _ _ hS1 (fun _ => ?_)
      clear hK K
      try simp only [List.setIfInBounds_toArray, List.set_cons_zero, List.set_cons_succ]
      refine wpAnyH_ready (rs := [8, 11]) (by as_aux_lemma => kernel_rfl) (by simp) (AllReadyH.cons rfl (fun K hK => ?_) (AllReadyH.cons rfl (fun K hK => ?_) (AllReadyH.nil)))
      · go_simp
        refine (clone_word r.a r.cap r.ps v1 (HR.out.row.later (Bn HBw1.out (Bn HB2.out hS1))) HPS.out.2.1.1).mono ?_
        rintro _ v2 ⟨a', cap', rfl, hrp, hfar, hb2⟩
        have hS2 := Bn hS1 hb2
        have hfar' := hid (fun b off e => Nat.le_trans hS1.size (hfar b off e))
        have HRP := hid hrp
        clear hrp hfar
        refine hK.out _ _ hS2 (fun _ => ?_)
        clear hK K
        try simp only [List.setIfInBounds_toArray, List.set_cons_zero, List.set_cons_succ]
        refine Ord.take (i := 9) (d := 24) (v := ?vB9) rfl rfl (by as_aux_lemma => kernel_rfl) (by as_aux_lemma => kernel_rfl) (by as_aux_lemma => kernel_rfl) (fun _ _ _ h => by cases h.1) (by rfl) ?hB9 (by assumption) ?_
        case hB9 => intro w hSw; go_simp; try with_reducible rfl
        simp only [List.setIfInBounds_toArray, List.set_cons_zero, List.set_cons_succ]
        refine Ord.take (i := 10) (d := 25) (v := ?vB10) rfl rfl (by as_aux_lemma => kernel_rfl) (by as_aux_lemma => kernel_rfl) (by as_aux_lemma => kernel_rfl) (fun _ _ _ h => by cases h.1) (by rfl) ?hB10 (by assumption) ?_
        case hB10 => intro w hSw; go_simp; try with_reducible rfl
        simp only [List.setIfInBounds_toArray, List.set_cons_zero, List.set_cons_succ]
        refine wpAnyH_ready (rs := [11]) (by as_aux_lemma => kernel_rfl) (by simp) (AllReadyH.cons rfl (fun K hK => ?_) (AllReadyH.nil))
        rw [if_pos (by rfl)]
        refine wp_alloc_W 77 rfl _ HZ.out (some 5) rfl v2.heap.size rfl ?_
        intro v3 HGA hB3 hZ3
        have hb3 : Below v2.heap.size v2 v3 := hB3.out
        have hS3 := Bn hS2 hb3
        have HG0 : Hid (W2.heap.size ≤ v2.heap.size) := hS2.size
        refine hK.out _ _ hS3 (fun _ => ?_)
        clear hK K
        try simp only [List.setIfInBounds_toArray, List.set_cons_zero, List.set_cons_succ]
        have HRP2 := hid (HRP.out.later hb3)
        refine wpAnyH_ready (rs := [12]) (by as_aux_lemma => kernel_rfl) (by simp) (AllReadyH.cons rfl (fun K hK => ?_) (AllReadyH.nil))
        rw [if_pos (by rfl)]
        refine wp_store_W 77 _ _ rfl v2.heap.size (fC r a' cap' none 0 0).toArray rfl rfl 77 _ HGA.out Try.size77 rfl (fC_one ..) ?_
        intro v4 HGB HW4 HZ4
        have hS4 : Below W2.heap.size W2 v4 := hS3.trans (bel_grown HW4.out HG0.out hS3.size)
        refine hK.out _ _ hS4 (fun _ => ?_)
        clear hK K
        try simp only [List.setIfInBounds_toArray, List.set_cons_zero, List.set_cons_succ]
        refine wpAnyH_done (by as_aux_lemma => kernel_rfl) ?_ _
        exact ⟨rfl, v2.heap.size, _, _, _, _, _, _, _, _, _, _, _, rfl, a', cap', HGB.out, HG0.out, HRP2.out.grown HW4.out (fun h0 b o e => HRP2.out.ne HGA.out (Fl.no8 _) h0 b o e), hfar'.out, hS4⟩
      · rw [if_pos (by rfl)]
        refine wp_alloc_W 77 rfl _ HZ.out (some 5) rfl v1.heap.size rfl ?_
        intro v2 HGA hB2 hZ2
        have hb2 : Below v1.heap.size v1 v2 := hB2.out
        have hS2 := Bn hS1 hb2
        have HG0 : Hid (W2.heap.size ≤ v1.heap.size) := hS1.size
        refine hK.out _ _ hS2 (fun _ => ?_)
        clear hK K
        try simp only [List.setIfInBounds_toArray, List.set_cons_zero, List.set_cons_succ]
        refine wpAnyH_ready (rs := [8]) (by as_aux_lemma => kernel_rfl) (by simp) (AllReadyH.cons rfl (fun K hK => ?_) (AllReadyH.nil))
        go_simp
        refine (clone_word r.a r.cap r.ps v2 (HR.out.row.later (Bn HBw1.out (Bn HB2.out hS2))) HPS.out.2.1.1).mono ?_
        rintro _ v3 ⟨a', cap', rfl, hrp, hfar, hb3⟩
        have hS3 := Bn hS2 hb3
        have HGA := hid (blk_later HGA.out hb3)
        have hfar' := hid (fun b off e => Nat.le_trans hS2.size (hfar b off e))
        have HRP := hid hrp
        clear hrp hfar
        refine hK.out _ _ hS3 (fun _ => ?_)
        clear hK K
        try simp only [List.setIfInBounds_toArray, List.set_cons_zero, List.set_cons_succ]
        have HRP2 := HRP
        refine Ord.take (i := 9) (d := 24) (v := ?vC9) rfl rfl (by as_aux_lemma => kernel_rfl) (by as_aux_lemma => kernel_rfl) (by as_aux_lemma => kernel_rfl) (fun _ _ _ h => by cases h.1) (by rfl) ?hC9 (by assumption) ?_
        case hC9 => intro w hSw; go_simp; try with_reducible rfl
        simp only [List.setIfInBounds_toArray, List.set_cons_zero, List.set_cons_succ]
        refine Ord.take (i := 10) (d := 25) (v := ?vC10) rfl rfl (by as_aux_lemma => kernel_rfl) (by as_aux_lemma => kernel_rfl) (by as_aux_lemma => kernel_rfl) (fun _ _ _ h => by cases h.1) (by rfl) ?hC10 (by assumption) ?_
        case hC10 => intro w hSw; go_simp; try with_reducible rfl
        simp only [List.setIfInBounds_toArray, List.set_cons_zero, List.set_cons_succ]
        refine wpAnyH_ready (rs := [12]) (by as_aux_lemma => kernel_rfl) (by simp) (AllReadyH.cons rfl (fun K hK => ?_) (AllReadyH.nil))
        rw [if_pos (by rfl)]
        refine wp_store_W 77 _ _ rfl v1.heap.size (fC r a' cap' none 0 0).toArray rfl rfl 77 _ HGA.out Try.size77 rfl (fC_one ..) ?_
        intro v4 HGB HW4 HZ4
        have hS4 : Below W2.heap.size W2 v4 := hS3.trans (bel_grown HW4.out HG0.out hS3.size)
        refine hK.out _ _ hS4 (fun _ => ?_)
        clear hK K
        try simp only [List.setIfInBounds_toArray, List.set_cons_zero, List.set_cons_succ]
        refine wpAnyH_done (by as_aux_lemma => kernel_rfl) ?_ _
        exact ⟨rfl, v1.heap.size, _, _, _, _, _, _, _, _, _, _, _, rfl, a', cap', HGB.out, HG0.out, HRP2.out.grown HW4.out (fun h0 b o e => HRP2.out.ne HGA.out (Fl.no8 _) h0 b o e), hfar'.out, hS4⟩
    · rw [if_pos (by rfl)]
      refine wp_alloc_W 77 rfl _ HZ.out (some 5) rfl v0.heap.size rfl ?_
      intro v1 HGA hB1 hZ1
      have hb1 : Below v0.heap.size v0 v1 := hB1.out
      have hS1 := Bn hS0 hb1
      have HG0 : Hid (W2.heap.size ≤ v0.heap.size) := hS0.size
      refine hK.out _ _ hS1 (fun _ => ?_)
      clear hK K
      try simp only [List.setIfInBounds_toArray, List.set_cons_zero, List.set_cons_succ]
      refine wpAnyH_ready (rs := [2]) (by as_aux_lemma => kernel_rfl) (by simp) (AllReadyH.cons rfl (fun K hK => ?_) (AllReadyH.nil))
      go_simp
      refine (clone_str r.path v1 HPS.out.1.2).mono ?_
      rintro _ v2 ⟨rfl, hb2⟩
      have hS2 := Bn hS1 hb2
      have HGA := hid (blk_later HGA.out hb2)
      refine hK.out _ _ hS2 (fun _ => ?_)
      clear hK K
      try simp only [List.setIfInBounds_toArray, List.set_cons_zero, List.set_cons_succ]
      refine wpAnyH_ready (rs := [8]) (by as_aux_lemma => kernel_rfl) (by simp) (AllReadyH.cons rfl (fun K hK => ?_) (AllReadyH.nil))
      go_simp
      refine (clone_word r.a r.cap r.ps v2 (HR.out.row.later (Bn HBw1.out (Bn HB2.out hS2))) HPS.out.2.1.1).mono ?_
      rintro _ v3 ⟨a', cap', rfl, hrp, hfar, hb3⟩
      have hS3 := Bn hS2 hb3
      have HGA := hid (blk_later HGA.out hb3)
      have hfar' := hid (fun b off e => Nat.le_trans hS2.size (hfar b off e))
      have HRP := hid hrp
      clear hrp hfar
      refine hK.out _ _ hS3 (fun _ => ?_)
      clear hK K
      try simp only [List.setIfInBounds_toArray, List.set_cons_zero, List.set_cons_succ]
      have HRP2 := HRP
      refine Ord.take (i := 9) (d := 24) (v := ?vD9) rfl rfl (by as_aux_lemma => kernel_rfl) (by as_aux_lemma => kernel_rfl) (by as_aux_lemma => kernel_rfl) (fun _ _ _ h => by cases h.1) (by rfl) ?hD9 (by assumption) ?_
      case hD9 => intro w hSw; go_simp; try with_reducible rfl
      simp only [List.setIfInBounds_toArray, List.set_cons_zero, List.set_cons_succ]
      refine Ord.take (i := 10) (d := 25) (v := ?vD10) rfl rfl (by as_aux_lemma => kernel_rfl) (by as_aux_lemma => kernel_rfl) (by as_aux_lemma => kernel_rfl) (fun _ _ _ h => by cases h.1) (by rfl) ?hD10 (by assumption) ?_
      case hD10 => intro w hSw; go_simp; try with_reducible rfl
      simp only [List.setIfInBounds_toArray, List.set_cons_zero, List.set_cons_succ]
      refine wpAnyH_ready (rs := [12]) (by as_aux_lemma => kernel_rfl) (by simp) (AllReadyH.cons rfl (fun K hK => ?_) (AllReadyH.nil))
      rw [if_pos (by rfl)]
      refine wp_store_W 77 _ _ rfl v0.heap.size (fC r a' cap' none 0 0).toArray rfl rfl 77 _ HGA.out Try.size77 rfl (fC_one ..) ?_
      intro v4 HGB HW4 HZ4
      have hS4 : Below W2.heap.size W2 v4 := hS3.trans (bel_grown HW4.out HG0.out hS3.size)
      refine hK.out _ _ hS4 (fun _ => ?_)
      clear hK K
      try simp only [List.setIfInBounds_toArray, List.set_cons_zero, List.set_cons_succ]
      refine wpAnyH_done (by as_aux_lemma => kernel_rfl) ?_ _
      exact ⟨rfl, v0.heap.size, _, _, _, _, _, _, _, _, _, _, _, rfl, a', cap', HGB.out, HG0.out, HRP2.out.grown HW4.out (fun h0 b o e => HRP2.out.ne HGA.out (Fl.no8 _) h0 b o e), hfar'.out, hS4⟩
end Go.Proofs.Ytcbjlnabbfkkeaa
