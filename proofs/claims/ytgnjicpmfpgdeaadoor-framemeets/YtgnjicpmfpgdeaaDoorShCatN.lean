/-
  The contract of slices.Concat at any row of rows of bytes.
-/
import Derived.Test.YtgnjicpmfpgdeaaDoorShJa
import Derived.Test.YtgnjicpmfpgdeaaDoorShConcatB
namespace Go.Proofs.YtgnjicpmfpgdeaaDoor.Sh
open Go.RowKit Sha

set_option maxHeartbeats 6400000 in
set_option maxRecDepth 100000 in
theorem concat_any (a : Option Addr) (cap : Nat) (L : List (List Nat)) (w : World) (hp : Ps w a cap L) (hs : L.flatten.length ≤ 900000) :
    Calls Tryd.prog 37 #[.slice a L.length cap] w fun e w' => ∃ v, e = .returned v ∧ w'.ownsRow w.heap.size 5 1 v L.flatten.length (V L.flatten) ∧ Below w.heap.size w w' := by
  have HG := hid (fun W : World => grow_bytes L.flatten.length W (by omega))
  have HP := hid hp
  have hmost := hp.most
  have hroom := hp.room
  unfold maxLen at hmost
  have HTF := hid (flat_take L)
  have HFL := hid (flat_le L)
  obtain ⟨n, hn⟩ : ∃ n, n = L.length := ⟨_, rfl⟩
  have HN := hid hn
  have HT0 : Hid ((L.take 0).flatten = []) := rfl
  have HTN : Hid ((L.take n).flatten = L.flatten) := by show _ = _; rw [hn, List.take_length]
  rw [← hn] at hroom
  rw [← hn]
  have HSS := hid hs
  clear hp hs hn
  go_enter Tryd.func37, Tryd.ntmps37
  go_wp2_with fail
  go_loopw [3, 11] (fun s i wr => wr = w ∧ ∃ k : Nat, k ≤ n ∧ i = .int .i64 (k : Int) ∧ s = .int .i64 (((L.take k).flatten.length : Nat) : Int)) (fun _ i _ => n - (intOf i).toNat)
  case atStart => exact ⟨rfl, 0, by omega, rfl, rfl⟩
  case round =>
    obtain ⟨hw, k, hk, rfl, rfl⟩ := hrel
    obtain rfl := hw.symm
    clear hw
    by_cases hlt : k < n
    · have hkz : (k : Int) < (n : Int) := by omega
      obtain ⟨b, off, rfl, hb, hc⟩ := HP.out.cells (by rw [← HN.out]; omega)
      obtain ⟨v, a', cap', hcell, hrd⟩ := hc k (by rw [← HN.out]; exact hlt)
      obtain rfl := hrd.val
      have htf := HTF.out k (by rw [← HN.out]; exact hlt)
      have hle := HFL.out (k + 1)
      have hss := HSS.out
      have hll : (L.take (k + 1)).flatten.length = (L.take k).flatten.length + (L.getD k []).length := by rw [htf, List.length_append]
      obtain ⟨T0, hT0⟩ : ∃ t, t = (L.take k).flatten.length := ⟨_, rfl⟩
      obtain ⟨T1, hT1⟩ : ∃ t, t = (L.take (k + 1)).flatten.length := ⟨_, rfl⟩
      obtain ⟨T2, hT2⟩ : ∃ t, t = (L.getD k []).length := ⟨_, rfl⟩
      have HT1 := hid hT1
      rw [← hT0, ← hT1, ← hT2] at hll
      rw [← hT1] at hle
      rw [← hT2] at hcell
      rw [← hT0]
      have hp : ¬ ((T0 : Int) + (T2 : Int) < 0) := by omega
      have hb1 : T0 + T2 ≤ 900000 := by omega
      clear hrd hc htf hT0 hT1 hT2 hb
      go_wp2
      exact ⟨⟨by trivial, k + 1, by omega, by go_num, by rw [← HT1.out]; go_num⟩, by simp [intOf]; omega⟩
    · have hkn : k = n := by omega
      subst hkn
      rw [HTN.out]
      obtain ⟨T, hT⟩ : ∃ t, t = L.flatten.length := ⟨_, rfl⟩
      rw [← hT] at HG
      rw [← hT]
      clear hT
      go_wp2_with fail
      go_at_call 61
      refine (HG.out w).mono ?_
      rintro _ w1 ⟨v, rfl, hown, hb1⟩
      have HO := hid hown
      have HB1 := hid hb1
      clear hown hb1 HG
      go_wp2_with fail
      go_loopw [6, 27] (fun v i wq => ∃ j : Nat, j ≤ k ∧ i = .int .i64 (j : Int) ∧ Hid (Below w.heap.size w wq) ∧ Hid (wq.ownsRow w.heap.size 5 1 v (L.take j).flatten.length (V (L.take j).flatten))) (fun _ i _ => k - (intOf i).toNat)
      case atStart => exact ⟨0, by omega, rfl, HB1.out, HO.out⟩
      case round =>
        obtain ⟨j, hj, rfl, HBQ, HOQ⟩ := hrel
        clear HO HB1
        by_cases hlt2 : j < k
        · have hjz : (j : Int) < (k : Int) := by omega
          obtain ⟨b, off, rfl, hb, hc⟩ := HP.out.cells (by rw [← HN.out]; omega)
          obtain ⟨v2, a', cap', hcell, hrd⟩ := hc j (by rw [← HN.out]; exact hlt2)
          obtain rfl := hrd.val
          have HTJ := hid (HTF.out j (by rw [← HN.out]; exact hlt2))
          have hle := HFL.out (j + 1)
          have hss := HSS.out
          have hq3 : (L.take j).flatten.length + (L.getD j []).length ≤ 1000000 := by rw [HTJ.out, List.length_append] at hle; omega
          have hcq := (HBQ.out.cell (p := ⟨b, off + j, none⟩) hb).trans hcell
          have HRD := hid (hrd.later HBQ.out)
          have HZQ := hid HBQ.out.size
          clear hcell hrd hc hb hle
          obtain ⟨P, hP⟩ : ∃ P, P = (L.take j).flatten := ⟨_, rfl⟩
          obtain ⟨z, hz⟩ : ∃ z, z = L.getD j [] := ⟨_, rfl⟩
          rw [← hP] at HOQ HTJ hq3
          rw [← hz] at HTJ hq3 HRD hcq
          clear hP hz
          go_wp2_with (at_builtin; refine app_any _ rfl _ _ rfl w.heap.size _ P rfl HOQ.out a' cap' z rfl HRD.out hq3 HZQ.out ?_)
          intro v' w2 hown' hgrow
          have HB2 := hid (HBQ.out.grown hgrow HZQ.out (fun j hj => (HOQ.out.lt j hj).1))
          have HO2 : Hid (w2.ownsRow w.heap.size 5 1 v' (L.take (j + 1)).flatten.length (V (L.take (j + 1)).flatten)) := by
            show World.ownsRow _ _ _ _ _ _ _
            rw [HTJ.out]
            rw [List.length_append]
            simpa using hown'
          clear hgrow hown' hcq
          go_wp2
          go_round
          case rel => exact ⟨j + 1, by omega, by go_num, HB2.out, HO2.out⟩
          case measure => simp [intOf]; omega
        · have hjn : j = k := by omega
          subst hjn
          rw [HTN.out] at HOQ
          go_wp2
          go_ret
          exact ⟨_, rfl, HOQ.out, HBQ.out⟩
end Go.Proofs.YtgnjicpmfpgdeaaDoor.Sh
