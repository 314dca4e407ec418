/-
  CrcForged is proved for every input: behind any bytes the four bytes of Forge make any sum; no condition.
-/
import Derived.Test.YtohbghniangknabForge
namespace Go.Proofs.Ytohbghniangknab.crcForged
open Go.ChangeShapes Go.WideShapes Go.ChangeAt Go.RowKit Crc

theorem own : ownKnob Try.prog.godebug = none := by kernel_rfl

/-- One row as a new list of rows. -/
theorem ps_one {w : World} {v1 : Value} {a1 : Option Addr} {c1 : Nat} {z1 : List Nat} (h1 : Rd w v1 a1 c1 z1) (g : Nat) (hg : g = w.heap.size) :
    Ps (w.alloc (.cells #[v1] 22)) (some ⟨g, 0, none⟩) 1 [z1] := by
  subst hg
  have hb := bel_alloc w (.cells #[v1] 22)
  refine ⟨Nat.le_refl _, by unfold maxLen; omega, fun _ => ⟨w.heap.size, 0, rfl, fun j hj => ?_⟩⟩
  have hc := World.cell?_alloc_mark w #[v1] 22 (0, 0)
  match j, hj with
  | 0, _ => exact ⟨v1, a1, c1, hc 0, h1.later hb⟩

theorem rd_four (w : World) (x : Nat) :
    Rd (w.alloc (.cells #[.int .u8 ((x : Int) % 256), .int .u8 ((x : Int) / 256 % 256), .int .u8 ((x : Int) / 65536 % 256), .int .u8 ((x : Int) / 16777216 % 256)] 26)) (.slice (some ⟨w.heap.size, 0, none⟩) 4 4) (some ⟨w.heap.size, 0, none⟩) 4 (four x) := by
  refine ⟨rfl, Nat.le_refl _, by unfold maxLen; omega, fun _ => ⟨w.heap.size, 0, rfl, by simp, fun j hj => ?_⟩, getD_lt _ (fun z hz => ?_)⟩
  · rw [Nat.zero_add, World.cell?_alloc_mark]
    match j, hj with
    | 0, _ => simp [four]
    | 1, _ => simp [four]
    | 2, _ => simp [four]
    | 3, _ => simp [four]
  · simp only [four, List.mem_cons, List.not_mem_nil, or_false] at hz
    omega

theorem forged_sums (z : List Nat) (t : Nat) (ht : t < 2 ^ 32) : sumL [z, four (forge (sumL [z]) t)] = t := by
  have e1 : sumL [z] = add 0 z := by simp [sumL]
  have e2 : sumL [z, four (forge (sumL [z]) t)] = add 0 (z ++ four (forge (sumL [z]) t)) := by simp [sumL]
  rw [e2, e1, add_append, forged _ _ (add_lt 0 z (by decide)) ht]

set_option maxHeartbeats 800000 in
theorem walk_rd (b : Option Addr) (cap : Nat) (ys : List Nat) (t : Nat) (w : World) (ht : t < 2 ^ 32) (hr : Rd w (.slice b ys.length cap) b cap ys) :
    Calls Try.prog 3 #[.slice b ys.length cap, .int .u32 (t : Int)] w fun e w' => e = .returned (.bool true) ∧ Below w.heap.size w w' := by
  go_enter Try.func3, Try.ntmps3
  go_wp2_with fail
  go_at_call 4
  refine (awake_any _).mono ?_
  rintro _ w0 ⟨rfl, hb0⟩
  have hr0 := hr.later hb0
  have C1 := hid (cut_any b cap ys w0 hr0)
  have r1 := hr0.take 8192
  generalize ys.take 8192 = z at *
  clear hr hr0
  generalize ys.length = m1 at *
  have O1 := hid (of_word _ _ _ _ (ps_one r1 _ rfl))
  have B1 := bel_alloc w0 (.cells #[.slice b z.length cap] 22)
  have F1 := hid (fun w : World => forge_word (sumL [z]) t w (sumL_lt _) ht)
  rw [forge_bytes] at F1
  have HS := hid (forged_sums z t ht)
  go_wp2_with fail
  go_at_call 5
  refine C1.out.mono ?_
  rintro _ w1 ⟨rfl, hw⟩
  obtain rfl := hw.symm
  clear hw
  go_wp2_with fail
  go_at_call 7
  refine O1.out.mono ?_
  rintro _ w1 ⟨rfl, hw⟩
  have B1' : Below w0.heap.size w0 w1 := by rw [hw]; exact B1
  clear hw B1
  go_wp2_with fail
  go_at_call 6
  refine (F1.out _).mono ?_
  rintro _ w2 ⟨rfl, hb2⟩
  have B2 := Bn B1' hb2
  clear hb2 B1'
  have r2 := r1.later B2
  generalize forge (sumL [z]) t = x at *
  have B3 := bel_alloc w2 (.cells #[.int .u8 ((x : Int) % 256), .int .u8 ((x : Int) / 256 % 256), .int .u8 ((x : Int) / 65536 % 256), .int .u8 ((x : Int) / 16777216 % 256)] 26)
  have P := of_ref _ _ _ _ (Ps.two (r2.later B3) (rd_four w2 x) (w2.heap.size + 1) (by simp))
  rw [HS.out] at P
  have HP := hid P
  have B4 := hid (Bn (Bn B2 B3) (bel_alloc _ (.cells #[.slice b z.length cap, .slice (some ⟨w2.heap.size, 0, none⟩) 4 4] 22)))
  clear r1 r2 B2 B3 P
  go_wp2_with fail
  go_at_call 8
  refine HP.out.mono ?_
  rintro _ w3 ⟨rfl, hw⟩
  obtain rfl := hw.symm
  clear hw
  go_wp2
  go_ret
  exact ⟨rfl, Bn hb0 B4.out⟩

theorem walk (a1 : Option Addr) (cap1 : Nat) (zs1 : List Nat) (a0 : Int) (w0 : (Lit.int .u32 a0).wf = true) (w : World) (hr1 : Rd w (.slice a1 zs1.length cap1) a1 cap1 zs1) :
    Calls Try.prog 3 #[.slice a1 zs1.length cap1, .int .u32 a0] w fun e w' => e = .returned (.bool true) ∧ Below w.heap.size w w' := by
  obtain ⟨h0, h1⟩ := wf_u32 w0
  obtain ⟨a, rfl⟩ := Int.eq_ofNat_of_zero_le h0
  exact walk_rd a1 cap1 zs1 a w (by omega) hr1

set_option maxRecDepth 100000 in
theorem lifted (os : Os) (started : os.Started) (H : Type) (enc : TypeId × Value → H) :
    ReturnsInHanded {} Try.checked os 3 .any (Rows.crcForgedSpec.pre6 enc Try.prog Try.f3 Rows.crcForgedRow.domain false) (Rows.crcForgedSpec.post enc Try.prog Try.f3 false true false false) := by
  refine returnsInHanded_of_change (C := Try.checked) own started (by kernel_rfl) Try.func3
    (ChangeSpec.witness6 (enc := enc) (C := Try.checked) false ⟨#[], #[.slice none 0 0, .int .u32 0], []⟩ 8 (by kernel_rfl) (by kernel_rfl) (by kernel_rfl) (by kernel_rfl)) ?_
  intro W base args ds gs before hval0 hW _ _
  have hval : ∀ (j : Nat) t v, Try.f3.params[j]? = some t → args[j]? = some v → Value.okWide Try.prog W .any base t v := hval0
  have hW' := hW
  obtain ⟨p, q, hA0, hV, rfl, _, _⟩ := hW
  have hA : DataW.TrodAll enc Try.prog W 0 (fun _ => true) true Try.f3.params.toList args.toList ds p := hA0
  rw [Try.params3] at hA hval
  obtain ⟨v0, vs0, d0, ds0, p0, q0, hargs, rfl, rfl, h0, r0⟩ := trodAll_cons hA
  obtain ⟨v1, vs1, d1, ds1, p1, q1, rfl, rfl, rfl, h1, r1⟩ := trodAll_cons r0
  obtain ⟨rfl, rfl, rfl⟩ := trodAll_nil r1
  obtain rfl : args = #[v0, v1] := by cases args; simp_all
  obtain ⟨rfl, rfl⟩ := trodVars_none hV
  obtain ⟨a1, rfl, rfl, rfl, w1⟩ := open_int Try.underlying23 (hval 1 23 v1 rfl rfl) h1
  clear hA0
  simp only [List.append_nil] at hW'
  have hlt0 : ∀ x ∈ p0, x.block < W.heap.size := fun x hx => hW'.lt x (by simp [hx])
  have hk0 := h0
  obtain ⟨a0, cap0, zs0, rfl, hr0⟩ := open_rd (hval 0 22 v0 rfl rfl) h0 hlt0
  clear hval0
  refine (walk a0 cap0 zs0 a1 w1 W hr0).mono fun e W' ⟨he, hb⟩ => ?_
  subst he
  exact ⟨_, rfl, _, _, _, [] ++ [], _, [], hW', trodAll_cons_mk (shut_bool Try.underlying4 _) trodAll_mk0, (trodAll_cons_mk (Below.trod Try.laidOut (by kernel_rfl) (of_decide_eq_true (by kernel_rfl)) hk0 hb hlt0) (trodAll_cons_mk (shut_int Try.underlying23 w1) trodAll_mk0)), rfl, hb.frame _, fun h => by cases h⟩

theorem over : Rows.crcForgedRow.holds Try.pinned (OpenSpec.ofChange Rows.crcForgedSpec) :=
  OpenClaim.holds_of_wide 3 Try.f3 rfl rfl rfl rfl rfl rfl rfl ⟨rfl, rfl, rfl, rfl, rfl⟩ rfl rfl rfl rfl rfl (by kernel_rfl) Try.func3 (by kernel_rfl)
    (of_decide_eq_true (by kernel_rfl)) (by unfold Func.isWrapper; first | (rw [if_pos (by decide +kernel)]; kernel_rfl) | (rw [if_neg (by decide +kernel)]; exact ⟨rfl, rfl⟩))
    (fun os started H enc _ => lifted os started H enc)

end Go.Proofs.Ytohbghniangknab.crcForged
namespace Go.Proofs.Ytohbghniangknab
theorem crcForged_holds : Rows.CrcForgedSaid := crcForged.over
#print axioms crcForged_holds
end Go.Proofs.Ytohbghniangknab
