/-
  append onto a row of one's own of the document's nodes, as an operation: what stood where the row lay stays there.
-/
import Derived.Test.YtgecoiakhmnilaaTriMath
import Derived.Test.YtgecoiakhmnilaaHalve
namespace Go.Proofs.Ytgecoiakhmnilaa
open Go.RowKit Hf

theorem run_app_stays {P : Program} (w : World) (base : Nat) (t ty e : TypeId) (i : TypeInfo) (z : Value) (size bytes : Nat) (ht : P.underlying t = some (.slice e)) (hi : P.info? e = some i) (hz : i.zero = some z)
    (hsize : i.size = size) (hby : i.bytes = bytes) (hzs : z.cells.size = size) (hsz : 0 < size)
    (g n cap : Nat) (xs : List Value) (hown : w.ownsRow base e size (.slice (some ⟨g, 0, none⟩) n cap) n xs)
    (a : Addr) (m c : Nat) (news : List Value) (hl : news.length = m * size) (hnews : ∀ j u, news[j]? = some u → w.cell? (a.add j) = some u) (h1 : ∀ u ∈ news, u.oneCell' = true)
    (h63 : n + m ≤ maxLen) (hbytes : (n + m) * bytes ≤ 140737488355328) (hbase : base ≤ w.heap.size) :
    ∃ v' w', (Builtin.append_ #[t, t] ty #[.slice (some ⟨g, 0, none⟩) n cap, .slice (some a) m c]).run P w = .ok v' w' ∧ w'.ownsRow base e size v' (n + m) (xs ++ news) ∧ w.grownBy w' (some g) ∧
      ∀ j u, xs[j]? = some u → w'.cell? ⟨g, j, none⟩ = some u := by
  obtain ⟨v', w', hr, h2, h3, _⟩ := run_append_own (P := P) w base t ty e i z size bytes ht hi hz hsize hby hzs hsz _ n xs hown a m c news hl hnews h1 h63 hbytes hbase
  refine ⟨v', w', hr, h2, h3, fun j u hj => ?_⟩
  have hold := hown.cells (g := g) rfl j u hj
  have hadd : ∀ k, (⟨g, 0, none⟩ : Addr).add k = ⟨g, k, none⟩ := fun k => by rw [Go.WideShapes.add_plain, Nat.zero_add]
  rw [hadd] at hold
  by_cases hroom : n + m ≤ cap
  · obtain ⟨w2, hr2, h4, _⟩ := run_append_fits (P := P) w base t ty e i size ht hi hsize g n cap xs hown a m c news hl hnews h1 hroom
    rw [hr] at hr2
    injection hr2 with e1 e2
    subst e1 e2
    have hlt := (List.getElem?_eq_some_iff.1 hj).1
    have := h4.cells (g := g) rfl j u (by rw [List.getElem?_append_left hlt]; exact hj)
    rwa [hadd] at this
  · subst hsize
    subst hby
    have hmx : n + m ≤ 9223372036854775807 := by simp only [maxLen] at h63; omega
    have hr2 := run_append_grow (P := P) w t ty e i z ht hi hz ⟨g, 0, none⟩ n cap xs hown.1 (hown.cells (g := g) rfl) a m c news hl hnews (by omega) (by omega) (growslice_fits (by omega) hbytes)
    rw [hr] at hr2
    injection hr2 with e1 e2
    subst e1 e2
    have hg0 : w.grownBy (w.drew.alloc (.cells (xs.toArray ++ news.toArray ++ Builtin.zeroCells z.cells (grownCap w (n + m) cap e - (n + m))) e)) none := ⟨rfl, rfl, rfl, by simp, fun k hk _ => (bel_alloc w.drew _).block k hk⟩
    exact hg0.cell hold (by simp)

theorem Try.info82 : (Try.prog.info? 82).map (fun i => (i.zero, i.size, i.bytes)) = some (some (.agg #[.int .i64 0, .int .i64 0, .int .i64 0]), 3, 24) := by kernel_rfl

theorem wp_app3 (w w0 : World) {o : Oper} {ac : Act} {K : Act → World → Prop} {Q : Exit → Act → World → Prop} (s x : Operand)
    (ho : o.op = .call { callee := .builtin .append, args := #[s, x], argTypes := #[80, 80] }) (B g n cap : Nat) (X : List Int) (a b c : Int) (hs : ac.eval s = .slice (some ⟨g, 0, none⟩) n cap) (hown : w0.ownsRow B 82 3 (.slice (some ⟨g, 0, none⟩) n cap) n (X.map (Value.int .i64)))
    (hw : w = w0.alloc (.cells #[.int .i64 a, .int .i64 b, .int .i64 c] 82)) (hx : ac.eval x = .slice (some ⟨w0.heap.size, 0, none⟩) 1 1) (hbd : n + 1 ≤ 100000) (hB : B ≤ w0.heap.size)
    (h : ∀ v' w', w'.ownsRow B 82 3 v' (n + 1) ((X ++ [a, b, c]).map (Value.int .i64)) → w.grownBy w' (some g) → (∀ j, j < X.length → w'.cell? ⟨g, j, none⟩ = some (.int .i64 (X.getD j 0))) → K (ac.put o.dst v') w') : o.wp Try.prog ac w K Q := by
  obtain ⟨i0, hi, hz0, hz1, hz2⟩ := info_parts Try.info82
  subst hw
  obtain ⟨v', w', hr, h2, h3, h4⟩ := run_app_stays (P := Try.prog) (w0.alloc (.cells #[.int .i64 a, .int .i64 b, .int .i64 c] 82)) B 80 o.type 82 i0 _ 3 24 Try.underlying80 hi hz0 hz1 hz2 rfl (by decide) g n cap _ (hown.alloc _) ⟨w0.heap.size, 0, none⟩ 1 1 [.int .i64 a, .int .i64 b, .int .i64 c] rfl (by
    intro j u hj
    match j, hj with
    | 0, hj => simp at hj; subst hj; simp [Addr.add]
    | 1, hj => simp at hj; subst hj; simp [Addr.add]
    | 2, hj => simp at hj; subst hj; simp [Addr.add]) (by
    intro u hu
    simp at hu
    rcases hu with rfl | rfl | rfl <;> rfl) (by unfold maxLen; omega) (by omega) (by simp; omega)
  unfold Oper.wp execOp
  simp only [ho, resolve, invoke, builtin, Sem.run_bind, Sem.run_pure, Result.andThen_ok, List.map_toArray, List.map_cons, List.map_nil, hs, hx, hr]
  refine h v' w' (by rw [List.map_append]; exact h2) h3 (fun j hj => h4 j _ ?_)
  rw [List.getElem?_map]
  simp [List.getD, List.getElem?_eq_getElem hj]
end Go.Proofs.Ytgecoiakhmnilaa
