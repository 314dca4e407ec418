/-
  The document's namespace: May (11).
-/
import Derived.Test.YtcbjlnabbfkkeaaNmT
import Derived.Test.YtcbjlnabbfkkeaaRcT
namespace Go.Proofs.Ytcbjlnabbfkkeaa
open Go.ChangeShapes Go.WideShapes Go.ChangeAt Go.RowKit Go.Deep Go.Lib

theorem Fs.later {w w' : World} {a : Option Addr} {cap : Nat} {L : List Fi} (h : Fs w a cap L) (hb : Below w.heap.size w w') : Fs w' a cap L := ⟨h.row.later hb, fun f hf => (h.ps f hf).later hb⟩
theorem Dn.later {W W' : World} {d : Nat} {a : Option Addr} {cap : Nat} {L : List Fi} (h : Dn W d a cap L) (hb : Below W.heap.size W W') : Dn W' d a cap L := ⟨blk_later h.blk hb, h.fs.later hb⟩
def dmayE (L : List Fi) (r : Rec) : Int := mayG (mayB r) r.kind (decide (0 ≤ fixI L r.path)) L.length
set_option maxHeartbeats 6400000 in
set_option maxRecDepth 100000 in
theorem dmay_word (W : World) (d : Nat) (a : Option Addr) (cap : Nat) (L : List Fi) (h : Dn W d a cap L) (r : Rec) (hr : Rv W r) :
    Calls Try.prog 11 #[.pointer (some ⟨d, 0, none⟩), .agg r.cs.toArray] W fun e w' => e = .returned (.int .i64 (dmayE L r)) ∧ Below W.heap.size W w' := by
  have hm : L.length ≤ maxLen := Nat.le_trans h.fs.row.room h.fs.row.most
  unfold maxLen at hm
  have HB := hid (bel_alc W (.cells r.cs.toArray 36))
  have HX := hid (Bx.mk' W r hr.len)
  have HCK := hid (dcheck_word r _ (hr.later HB.out))
  have HLL := hid (Rec.cs_len hr.len)
  have HDn := hid (h.later HB.out)
  obtain ⟨W0, hW0⟩ : ∃ W0, W0 = W.alloc (.cells r.cs.toArray 36) := ⟨_, rfl⟩
  rw [← hW0] at HB HX HCK HDn
  have HLD := hid HX.out.range
  have HE : Hid (dmayE L r = mayG (mayB r) r.kind (decide (0 ≤ fixI L r.path)) L.length) := rfl
  obtain ⟨mb, hmb⟩ : ∃ mb, mb = mayB r := ⟨_, rfl⟩
  rw [← hmb] at HCK HE
  clear h hr hmb
  go_enter Try.func11, Try.ntmps11
  go_wp2_with (first | refine wpList_load_g rfl 36 _ rfl W.heap.size 0 rfl r.cs _ (by rw [← hW0]; exact HLD.out) Try.underlying36 rfl (by rw [HLL.out]; exact Try.size36) ?_ | fail)
  rw [← hW0]
  refine HCK.out.mono ?_
  rintro _ W1 ⟨rfl, hb1⟩
  have HB1 := hid (HB.out.trans (hb1.mono HB.out.size))
  have HX1 := hid (HX.out.later hb1)
  have HD1 := hid (HDn.out.later hb1)
  have HFW := hid (find_word W1 d a cap L r.path HD1.out)
  clear hb1 HCK HX HDn HLD HB hW0
  cases mb with
  | false =>
    unfold e130
    go_wp2
    go_ret
    exact ⟨by rw [HE.out]; rfl, HB1.out⟩
  | true =>
    have c36 := HX1.out.c36
    have c34 := HX1.out.c34
    unfold e130
    go_wp2_with fail
    refine HFW.out.mono ?_
    rintro _ w2 ⟨rfl, hw⟩
    obtain rfl := hw.symm
    clear hw HFW
    have cl : W1.cell? ⟨d, 0, none⟩ = some (.slice a L.length cap) := (Joins.cell_of_block HD1.out.blk 0).trans rfl
    generalize fixI L r.path = fx at *
    generalize r.kind = kd at *
    obtain ⟨n, hn⟩ : ∃ n, n = L.length := ⟨_, rfl⟩
    rw [← hn] at cl HE hm
    clear hn
    by_cases hfx : fx < 0
    · have hd : Hid (decide (0 ≤ fx) = false) := decide_eq_false (by omega)
      rw [hd.out] at HE
      by_cases h3 : kd = 3
      · subst h3
        go_wp2
        go_ret
        exact ⟨by rw [HE.out]; rfl, HB1.out⟩
      · by_cases h2 : kd = 2
        · subst h2
          by_cases hL : 1024 ≤ n
          · have hLz : (1024 : Int) ≤ (n : Int) := by omega
            go_wp2
            go_ret
            exact ⟨by rw [HE.out, show mayG true 2 false n = 3 from by unfold mayG; rw [if_neg (by simp), if_neg (by simp), if_pos ⟨rfl, rfl, hL⟩]]; rfl, HB1.out⟩
          · have hLz : ¬ (1024 : Int) ≤ (n : Int) := by omega
            go_wp2
            go_ret
            exact ⟨by rw [HE.out, show mayG true 2 false n = 0 from by unfold mayG; rw [if_neg (by simp), if_neg (by simp), if_neg (fun c => hL c.2.2)]]; rfl, HB1.out⟩
        · go_wp2
          go_ret
          exact ⟨by rw [HE.out, show mayG true kd false n = 0 from by unfold mayG; rw [if_neg (by simp), if_neg (fun c => h3 c.1), if_neg (fun c => h2 c.1)]]; rfl, HB1.out⟩
    · have hd : Hid (decide (0 ≤ fx) = true) := decide_eq_true (by omega)
      rw [hd.out] at HE
      have hE : Hid (mayG true kd true n = 0) := by show _ = _; unfold mayG; simp
      by_cases h3 : kd = 3
      · subst h3
        go_wp2
        go_ret
        exact ⟨by rw [HE.out, hE.out]; rfl, HB1.out⟩
      · by_cases h2 : kd = 2
        · subst h2
          go_wp2
          go_ret
          exact ⟨by rw [HE.out, hE.out]; rfl, HB1.out⟩
        · go_wp2
          go_ret
          exact ⟨by rw [HE.out, hE.out]; rfl, HB1.out⟩
end Go.Proofs.Ytcbjlnabbfkkeaa
