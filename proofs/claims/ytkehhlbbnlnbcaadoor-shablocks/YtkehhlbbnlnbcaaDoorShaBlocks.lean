/-
  ShaBlocks: the digest goes on from the state behind whole blocks, by steps; where the program's tables are as its text lays them.
-/
import Derived.Test.YtkehhlbbnlnbcaaDoorBlocksV
namespace Go.Proofs.YtkehhlbbnlnbcaaDoor.shaBlocks
open Go.ChangeShapes Go.WideShapes Go.ChangeAt Go.RowKit Sha shaPieces

set_option maxHeartbeats 6400000 in
set_option maxRecDepth 100000 in
theorem walk (a : Option Addr) (cap : Nat) (bl : List (List Nat)) (b : Option Addr) (capb : Nat) (ys : List Nat) (W : World) (hl : Laid W) (hr : Bs W a cap bl) (hrb : Rd W (.slice b ys.length capb) b capb ys) :
    Calls Tryd.prog 8 #[.slice a bl.length cap, .slice b ys.length capb] W fun e w' => e = .returned (.bool true) ∧ Below W.heap.size W w' := by
  have HL := hid hl
  have HBS := hid hr
  have HRB := hid hrb
  have hroom := hrb.room
  have hmost := hrb.most
  have hroomB := hr.room
  have hmostB := hr.most
  unfold maxLen at hmost hmostB
  clear hl
  by_cases h8 : 8 < bl.length
  · by_cases h6 : 600 < ys.length
    · have h8' : (8 : Int) < (bl.length : Int) := by omega
      obtain ⟨x8, y8, rfl, _, _⟩ := hr.cells (by omega)
      have hz8 : (bl.take 8).length = 8 := by rw [List.length_take]; omega
      have HBS8 := hid (hr.take 8)
      have HN8 := hid hz8
      have h6' : (600 : Int) < (ys.length : Int) := by omega
      obtain ⟨x, y, rfl, _, _⟩ := hrb.cells (by omega)
      have hz6 : (ys.take 600).length = 600 := by rw [List.length_take]; omega
      have hrz := hrb.take 600
      rw [hz6] at hrz
      have HRZ0 := hid hrz
      have HZN0 := hid hz6
      clear hrz hz6 HRB
      generalize ys.take 600 = z at *
      generalize ys.length = yn0 at *
      clear hrb hr
      clear hz8 HBS
      generalize bl.length = ln at *
      generalize bl.take 8 = bl8 at *
      go_enter Tryd.func8, Tryd.ntmps8
      go_wp2_with fail
      obtain ⟨zn, hzn⟩ : ∃ n : Nat, n = 600 := ⟨_, rfl⟩
      rw [show (600 : Nat) = zn from hzn.symm]
      have HRZ : Hid (Rd W (.slice (some ⟨x, y, none⟩) zn capb) (some ⟨x, y, none⟩) capb z) := by show Rd _ _ _ _ _; rw [hzn]; exact HRZ0.out
      have HZN : Hid (z.length = zn) := by show _ = _; rw [hzn]; exact HZN0.out
      have hzn6 : zn ≤ 600 := by omega
      clear hzn HRZ0 HZN0 h6 h6'
      generalize (some (⟨x, y, none⟩ : Addr)) = b at *
      have HBS := HBS8
      have HN := HN8
      clear HBS8 HN8 h8 h8'
      generalize (some (⟨x8, y8, none⟩ : Addr)) = a at *
      generalize bl8 = bl at *
      go_wp2_with fail
      go_at_call 17
      refine (start_word W HL.out).mono ?_
      rintro _ w1 ⟨rfl, hb1⟩
      obtain ⟨q2, f2, z2⟩ := put_state w1 Sha.start.list w1.heap.size rfl
      have hn1 := heap_new w1 (.cells (arr .u32 z8) 31)
      have HBS1 := hid (HBS.out.later hb1)
      have HRZ1 := hid (HRZ.out.later hb1)
      have HL1 := hid (HL.out.later hb1)
      have HB1 := hid hb1
      have hlw2 := HL1.out.two
      have hw01 := hb1.size
      clear hb1 HBS HRZ HL
      go_wp2_with (first
        | (refine wpList_alloc_at rfl 31 rfl (some 5) rfl (arr .u32 z8) Tryd.zero31 w1.heap.size rfl ?_)
        | (refine wpList_store_rowTo rfl 31 _ _ rfl rfl w1.heap.size (arr .u32 Sha.start.list) rfl rfl 31 _ hn1 Tryd.size31 rfl (arr_one _ _) ?_))
      generalize (w1.alloc (.cells (arr .u32 z8) 31)).setRow w1.heap.size (arr .u32 Sha.start.list) = w2 at *
      clear hn1
      have HQ2 := hid q2
      have HF2 := hid f2
      clear q2 f2
      generalize hgg : w1.heap.size = g at *
      have HGG := hid hgg
      clear hgg
      go_loopw [6, 7] (fun v i wr => ∃ k : Nat, k ≤ 8 ∧ i = .int .i64 k ∧ wr.ownsRow (g + 1) 5 1 v (bl.take k).flatten.length (V (bl.take k).flatten) ∧ wr.heap[g]? = some (.cells (arr .u32 (blocks k (bl.take k).flatten Sha.start).list) 31 (0, 0)) ∧ Below g w1 wr) (fun _ i _ => 8 - (intOf i).toNat)
      case atStart => exact ⟨0, by omega, rfl, World.ownsRow_nil _ _ _ _, HF2.out, HQ2.out⟩
      case round =>
        obtain ⟨k, hk, rfl, hown, hsv, hbel⟩ := hrel
        have hgw : g < wr.heap.size := (Array.getElem?_eq_some_iff.1 hsv).1
        have hB1 : Below w1.heap.size w1 wr := by rw [HGG.out]; exact hbel
        have HBEL := hid hbel
        have HB1r := hid hB1
        clear hB1 hbel HF2 HQ2
        by_cases hlt : k < 8
        · have hkn : (k : Int) < 8 := by omega
          have hkm : k < bl.length := by rw [HN.out]; exact hlt
          obtain ⟨bb, off, ha1, hbb, hc⟩ := HBS1.out.cells (by omega)
          subst ha1
          have hcW := HBS1.out.later HB1r.out
          obtain ⟨b2, o2, ha2, hbbr, hcr⟩ := hcW.cells (by omega)
          injection ha2 with ha2
          injection ha2 with h21 h22
          subst h21 h22
          have hy64 := HBS1.out.len k hkm
          have hylt := HBS1.out.lo k hkm
          have hcy := hcr k hkm
          have hbg : bb < g := by rw [HGG.out] at hbb; exact hbb
          have HF := hid (flat_take bl k hkm)
          have HS1 := hid (step_one bl HBS1.out.len k hkm)
          have HFL := hid (flat_len bl HBS1.out.len k (by omega))
          clear hc hcr hcW hbb hbbr
          generalize bl.getD k [] = y at *
          have hok := blocks_ok k (bl.take k).flatten Sha.start start_ok
          generalize hfl : (bl.take k).flatten = fl at *
          generalize hsb : blocks k fl Sha.start = sb at *
          have hfl64 : fl.length ≤ 512 := by have := HFL.out; omega
          have HFE := hid hfl
          clear hfl hsb
          have HLB := hid (fun (w : World) (h : wr.grownBy w (some g)) => load_block (w := w) (b := bb) (off := off + k * 64) hy64 (fun i hi => by rw [World.cell?_of_block (w := wr) (h.block bb (by omega) (by intro h; injection h with h; omega)), Nat.mul_comm k 64, Nat.add_assoc]; exact hcy i hi))
          have HST := hid (fun (w : World) (h : Laid w) => step_word sb y w hok hy64 hylt h)
          have HLR := hid (HL1.out.later HB1r.out)
          generalize Sha.step sb y = sn at *
          have hsnS : (arr .u32 sn.list).size = 8 := arr_size _ _
          have hsnI : (Tryd.prog.info? 31).map (·.size) = some (arr .u32 sn.list).size := by rw [hsnS]; exact Tryd.size31
          have hsnE : (arr .u32 sb.list).size = (arr .u32 sn.list).size := (arr_size _ _).trans hsnS.symm
          have HOW := hid hown
          have HSV := hid hsv
          have HCY := hid hcy
          have HYL := hid hylt
          clear hown hsv hcy hylt hok
          go_wp2_with fail
          refine wp_region_held_drew (S := fun w' => wr.grownBy w' (some g)) (by as_aux_lemma => kernel_rfl) (grown_drewN (grown_refl wr _) 1) (fun hS => ?_)
          have hSV : Hid (wr.drew.heap[g]? = some (.cells (arr .u32 sb.list) 31 (0, 0))) := HSV.out
          have hLD : Hid (Laid wr.drew) := HLR.out.drewN 1
          generalize wr.drew = wD at *
          refine Ord.take (i := 1) (d := 29) (v := ?v1p11) rfl rfl (by as_aux_lemma => kernel_rfl) (by as_aux_lemma => kernel_rfl) (by as_aux_lemma => kernel_rfl) (fun _ _ _ h => h) (by rfl) ?h1 (by assumption) ?_
          case h1 => intro w hSw; go_simp; try with_reducible rfl
          simp only [List.setIfInBounds_toArray, List.set_cons_zero, List.set_cons_succ]
          refine Ord.take (i := 2) (d := 30) (v := ?v2p11) rfl rfl (by as_aux_lemma => kernel_rfl) (by as_aux_lemma => kernel_rfl) (by as_aux_lemma => kernel_rfl) (fun _ _ _ h => h) (by rfl) ?h2 (by assumption) ?_
          case h2 => intro w hSw; go_simp; try with_reducible rfl
          simp only [List.setIfInBounds_toArray, List.set_cons_zero, List.set_cons_succ]
          refine Ord.take (i := 3) (d := 31) (v := .pointer (some ⟨bb, off + k * 64, none⟩)) rfl rfl (by as_aux_lemma => kernel_rfl) (by as_aux_lemma => kernel_rfl) (by as_aux_lemma => kernel_rfl) (fun _ _ _ h => h) (by rfl) ?h3 (by assumption) ?_
          case h3 => intro w hSw; go_simp; try with_reducible rfl
          simp only [List.setIfInBounds_toArray, List.set_cons_zero, List.set_cons_succ]
          refine Ord.take (i := 4) (d := 32) (v := .agg (arr .u8 y)) rfl rfl (by as_aux_lemma => kernel_rfl) (by as_aux_lemma => kernel_rfl) (by as_aux_lemma => kernel_rfl) (fun _ _ _ h => h) (by rfl) ?h4 (by assumption) ?_
          case h4 => exact fun w hSw => run_load_op (p := .pointer (some ⟨bb, off + k * 64, none⟩)) rfl rfl (HLB.out w hSw)
          simp only [List.setIfInBounds_toArray, List.set_cons_zero, List.set_cons_succ]
          refine wpAnyH_ready (rs := [0]) (by as_aux_lemma => kernel_rfl) (by simp) (AllReadyH.cons rfl (fun K hK => ?_) AllReadyH.nil)
          rw [if_pos (by rfl)]
          refine wp_load_run 31 (.tmp 5) rfl (.pointer (some ⟨g, 0, none⟩)) (.agg (arr .u32 sb.list)) rfl (load_whole hSV.out Tryd.underlying31 rfl Tryd.size31) ?_
          refine hK.out _ _ hS (fun _ => ?_)
          clear hK K
          simp only [Act.put, List.setIfInBounds_toArray]
          refine wpAnyH_ready (rs := [5]) (by as_aux_lemma => kernel_rfl) (by simp) (AllReadyH.cons rfl (fun K hK => ?_) AllReadyH.nil)
          go_simp
          refine (HST.out _ hLD.out).mono ?_
          rintro _ w3 ⟨rfl, hb3⟩
          have hS3 := grown_trans hS (grown_below hb3 _)
          have hv3 : w3.heap[g]? = some (.cells (arr .u32 sb.list) 31 (0, 0)) := by rw [hb3.block g (Array.getElem?_eq_some_iff.1 hSV.out).1]; exact hSV.out
          refine hK.out _ _ hS3 (fun _ => ?_)
          clear hK K hb3
          refine wpAnyH_ready (rs := [6]) (by as_aux_lemma => kernel_rfl) (by simp) (AllReadyH.cons rfl (fun K hK => ?_) AllReadyH.nil)
          rw [if_pos (by rfl)]
          refine wp_store_row 31 (.tmp 5) (.tmp 33) rfl g (arr .u32 sn.list) rfl rfl 31 _ hv3 hsnI hsnE (arr_one _ _) ?_
          have hS4 := grown_trans hS3 (grown_setRow w3 g (arr .u32 sn.list))
          have f4 := setRow_heap _ _ _ (arr .u32 sn.list) _ _ hv3
          refine hK.out _ _ hS4 (fun _ => ?_)
          clear hK K hv3 hS3 hSV hLD hS
          refine wpAnyH_done (by as_aux_lemma => kernel_rfl) ?_ _
          generalize w3.setRow g (arr .u32 sn.list) = w4 at *
          simp only [Act.put]
          have hown4 := own_kept HOW.out hS4 (Nat.lt_succ_self g)
          have hb4 : Below g w1 w4 := HBEL.out.trans (grown_bel hS4 (Nat.le_refl _) (by omega))
          have hz4 : g < w4.heap.size := Nat.lt_of_lt_of_le hgw hS4.size
          have hrd4 := rd_part (w := w4) (b := bb) (off := off + k * 64) hy64 HYL.out (by omega) (fun i hi => by rw [World.cell?_of_block (w := wr) (hS4.block bb (by omega) (by intro h; injection h with h; omega)), Nat.mul_comm k 64, Nat.add_assoc]; exact HCY.out i hi)
          have HF4 := hid f4
          have hsl := slice_whole bb (off + k * 64)
          clear hS4 f4 HOW HSV HLB HST HCY
          have hbd4 : fl.length + y.length ≤ 1000000 := by omega
          have hgz4 : g + 1 ≤ w4.heap.size := hz4
          go_wp2_with (at_builtin; refine app_len _ rfl _ _ rfl (g + 1) _ fl rfl hown4 (some ⟨bb, off + k * 64, none⟩) 64 y 64 rfl hy64 hrd4 hbd4 hgz4 ?_)
          intro v5 w5 hown5 hgr5
          have hb5 : Below g w1 w5 := hb4.grown hgr5 (by omega) (fun j hj => Nat.le_trans (Nat.le_succ g) (hown4.lt j hj).1)
          have f5 : w5.heap[g]? = _ := (hgr5.block g hz4 (fun h => absurd (hown4.lt g h.symm).1 (by omega))).trans HF4.out
          have R1 : Hid (w5.ownsRow (g + 1) 5 1 v5 (bl.take (k + 1)).flatten.length (V (bl.take (k + 1)).flatten)) := by show World.ownsRow _ _ _ _ _ _ _; rw [HF.out]; first | exact hown5 | (rw [List.length_append, hy64]; exact hown5)
          have R2 : Hid (w5.heap[g]? = some (.cells (arr .u32 (blocks (k + 1) (bl.take (k + 1)).flatten Sha.start).list) 31 (0, 0))) := by show _ = _; rw [HS1.out]; exact f5
          have R3 := hid hb5
          clear hown4 hown5 hgr5 hb4 hb5 f5 hrd4 HF4
          go_wp2
          exact ⟨⟨k + 1, by omega, by go_num, R1.out, R2.out, R3.out⟩, by simp [intOf]; omega⟩
        · obtain rfl : k = 8 := by omega
          have hkn : ¬ (8 : Int) < (8 : Int) := by omega
          have HALEN := hid (flat_len bl HBS1.out.len 8 (by have := HN.out; omega))
          have HALT := hid (bs_lt HBS1.out 8)
          have HLR := hid (HL1.out.later HB1r.out)
          have HSTW := hid (step_two (bl.take 8).flatten)
          generalize (bl.take 8).flatten = al at *
          have HOK := hid (fun (m : Nat) (rs : List Nat) => blocks_ok m (al ++ rs) Sha.start start_ok)
          have HAP := hid (fun (rs : List Nat) => blocks_app 8 al rs Sha.start (by rw [HALEN.out]; exact Nat.le_refl _))
          generalize hs0 : blocks 8 al Sha.start = s0 at *
          have HS0 := hid hs0
          clear hs0
          obtain ⟨aa, ca, rfl⟩ := own_slice hown
          have haln : al.length ≤ 512 := by rw [HALEN.out]; omega
          generalize hfn : al.length = aln at *
          have HFN := hid hfn
          clear hfn
          have bA := bel_alloc wr (.cells #[] 5)
          have hoA := World.ownsRow_lit (base := wr.heap.size) (e := 5) (size := 1) wr #[] 0 (Nat.le_refl _) (by unfold maxLen; omega) rfl
          have hzA : wr.heap.size ≤ (wr.alloc (.cells #[] 5)).heap.size := bA.size
          have hrdA : Rd (wr.alloc (.cells #[] 5)) (.slice b z.length capb) b capb z := by rw [HZN.out]; exact HRZ1.out.later (Bn HB1r.out bA)
          have hbdA : ([] : List Nat).length + z.length ≤ 1000000 := by rw [HZN.out]; simp; omega
          have HOWN := hid hown
          have HSV := hid hsv
          clear hown hsv
          go_wp2_with (at_builtin; refine app_len _ rfl _ _ rfl wr.heap.size _ [] rfl hoA b capb z zn rfl HZN.out hrdA hbdA hzA ?_)
          intro vB wB hownB hgrB
          have hownB2 : wB.ownsRow wr.heap.size 5 1 vB z.length (V z) := by first | exact hownB | simpa using hownB | (rw [HZN.out]; simpa using hownB)
          have hbB : Below wr.heap.size wr wB := bA.grown hgrB hzA (fun j hj => (hoA.lt j hj).1)
          have hzB := hbB.size
          have HPD := hid (fun W : World => pad_word (aln + zn) W (by omega))
          simp only [Int.natCast_add] at HPD
          have hpl := pad_length (aln + zn)
          have HPL := hid (pad_lt (aln + zn))
          have HZLT := hid HRZ1.out.hi
          generalize hpd : pad (aln + zn) = pd at *
          have HPDE := hid hpd
          clear hpd hownB hgrB bA hoA hzA hrdA hbdA
          generalize wr.alloc (.cells #[] 5) = wA at *
          go_wp2_with fail
          refine (HPD.out _).mono ?_
          rintro _ wC ⟨pv, rfl, hpo, hpb⟩
          obtain ⟨pg, pc, rfl, hpg, hprd⟩ := rd_own hpo (by omega) HPL.out
          have hownC := own_later hownB2 hpb
          have hbC : Below wr.heap.size wr wC := hbB.trans (hpb.mono hzB)
          have hzC := hbC.size
          have hbdC : z.length + pd.length ≤ 1000000 := by rw [HZN.out]; omega
          clear hpo hownB2 HPD hpg
          go_wp2_with (at_builtin; refine app_any _ rfl _ _ rfl wr.heap.size _ z rfl hownC _ pc pd rfl hprd hbdC hzC ?_)
          intro vD wD hownD hgrD
          have hownD2 : wD.ownsRow wr.heap.size 5 1 vD (z ++ pd).length (V (z ++ pd)) := by first | exact hownD | (rw [List.length_append]; exact hownD) | (rw [List.length_append, HZN.out]; exact hownD)
          have hbD : Below wr.heap.size wr wD := hbC.grown hgrD hzC (fun j hj => (hownC.lt j hj).1)
          have HRSL : Hid ((z ++ pd).length = zn + pd.length) := by show _ = _; rw [List.length_append, HZN.out]
          have HRLT := hid (getD_app z pd HZLT.out HPL.out)
          generalize hrs : z ++ pd = rs at *
          have HRSE := hid hrs
          clear hrs hownD hgrD hownC hprd hpb hbB hbC hbdC
          obtain ⟨rg, rc, rfl, hrg, hrrd⟩ := rd_own hownD2 (by rw [HRSL.out]; omega) HRLT.out
          obtain ⟨M, hMM⟩ : ∃ M, rs.length = 64 * M := ⟨rs.length / 64, by have := HRSL.out; have := HALEN.out; have := HFN.out; omega⟩
          have hM20 : M ≤ 20 := by have := HRSL.out; omega
          have HRRD := hid hrrd
          have HSVD : Hid (wD.heap[g]? = some (.cells (arr .u32 s0.list) 31 (0, 0))) := by show _ = _; rw [hbD.block g hgw]; exact HSV.out
          have HOWD := hid (own_later HOWN.out hbD)
          have HBD := hid hbD
          have hzD := hbD.size
          clear hownD2 hrrd hbD HOWN HSV
          generalize hrl : rs.length = rsn at *
          have HRL := hid hrl
          clear hrl
          have hrem : (rsn : Int) % 64 = 0 := by omega
          have hR1 : 64 * M ≤ rsn := by omega
          have hR2 : rsn ≤ 64 * M := by omega
          clear hMM
          have hrgg : g < rg := by omega
          have HRX : Hid (Rx g wD (.slice (some ⟨rg, 0, none⟩) rsn rc) (some ⟨rg, 0, none⟩) rc rs) := ⟨HRRD.out, fun _ ad had => by injection had with had; subst had; show rg ≠ g; omega⟩
          have hrc : rsn ≤ rc := by have := HRRD.out.room; have := HRL.out; omega
          have HLD := hid (HLR.out.later HBD.out)
          have hgD : g < wD.heap.size := by omega
          have h2g : 2 ≤ g := by have := HL1.out.two; have := HGG.out; omega
          go_wp2_with fail
          clear hrem
          go_loopw [9] (fun i wq => ∃ m : Nat, m ≤ M ∧ i = .int .i64 (64 * (m : Int)) ∧ wq.heap[g]? = some (.cells (arr .u32 (blocks (8 + m) (al ++ rs) Sha.start).list) 31 (0, 0)) ∧ wD.grownBy wq (some g)) (fun i _ => 64 * M + 64 - (intOf i).toNat)
          case atStart => exact ⟨0, by omega, rfl, by rw [Nat.add_zero, HAP.out]; exact HSVD.out, grown_refl _ _⟩
          case round =>
            obtain ⟨m, hm, rfl, hsv, hgr⟩ := hrel
            by_cases hmM : m < M
            · have hcond : 64 * (m : Int) < (rsn : Int) := by omega
              have hRQ := (HRX.out.kept hgr).rd
              obtain ⟨r2, o2, hae, hrgw, hac⟩ := hRQ.cells (by rw [HRL.out]; omega)
              injection hae with hae
              injection hae with h21 h22
              subst h21 h22
              have HSTP := hid (HSTW.out rs 8 m HALEN.out)
              have hb64 : ((rs.drop (64 * m)).take 64).length = 64 := by rw [List.length_take, List.length_drop, HRL.out]; omega
              have HBLT := hid (blk_lt rs HRLT.out (64 * m))
              have hcB : ∀ i, i < 64 → wr.cell? ⟨rg, 64 * m + i, none⟩ = some (.int .u8 ((((rs.drop (64 * m)).take 64).getD i 0 : Nat) : Int)) := fun i hi => by rw [blk_get rs (64 * m) i hi]; have := hac (64 * m + i) (by rw [HRL.out]; omega); rw [Nat.zero_add] at this; exact this
              have hok := HOK.out (8 + m) rs
              generalize (rs.drop (64 * m)).take 64 = bk at *
              generalize hsm : blocks (8 + m) (al ++ rs) Sha.start = sm at *
              clear hsm hac hRQ
              have HST := hid (fun (w : World) (h : Laid w) => step_word sm bk w hok hb64 HBLT.out h)
              generalize Sha.step sm bk = sn at *
              have hsnS : (arr .u32 sn.list).size = 8 := arr_size _ _
              have hsz8 : (arr .u32 sm.list).size = 8 := arr_size _ _
              have hsz64 : (arr .u8 bk).size = 64 := (arr_size _ _).trans hb64
              have hgB := heap_new wr (.cells (arr .u8 z64) 32)
              have b5 := bel_alloc wr (.cells (arr .u8 z64) 32)
              have hgq : g < wr.heap.size := (Array.getElem?_eq_some_iff.1 hsv).1
              have z5 : (wr.alloc (.cells (arr .u8 z64) 32)).heap.size = wr.heap.size + 1 := by simp
              have hs3 := slice_at rg rsn rc m (by omega) hrc
              have hs1 := slice_whole wr.heap.size 0
              have HCP := hid (fun ty => copy_block (wr.alloc (.cells (arr .u8 z64) 32)).drew wr.heap.size rg (64 * m) (rsn - 64 * m) (rc - 64 * m) bk hgB hb64 (by omega) (fun i hi => (b5.drew.cell (p := ⟨rg, 64 * m + i, none⟩) hrgw).trans (hcB i hi)) ty)
              have b6 : Below wr.heap.size wr ((wr.alloc (.cells (arr .u8 z64) 32)).drew.setRow wr.heap.size (arr .u8 bk)) := below_setRow b5.drew (Nat.le_refl _) _
              have f6 : ((wr.alloc (.cells (arr .u8 z64) 32)).drew.setRow wr.heap.size (arr .u8 bk)).heap[wr.heap.size]? = some (.cells (arr .u8 bk) 32 (0, 0)) := setRow_heap _ _ _ _ _ _ hgB
              have HB6 := hid b6
              have HF6 := hid f6
              have HSV := hid hsv
              have HGR := hid hgr
              clear b5 b6 f6 hsv hgr hok z5
              go_wp2_with (refine wpList_alloc_at rfl 32 rfl (some 10) rfl (arr .u8 z64) Tryd.zero32 wr.heap.size rfl ?_)
              clear hgB
              refine wp_region_held_drew (S := fun _ => True) (by as_aux_lemma => kernel_rfl) trivial (fun hS => ?_)
              generalize (wr.alloc (.cells (arr .u8 z64) 32)).drew = w5 at *
              refine Ord.take (i := 0) (d := 61) (v := .slice (some ⟨wr.heap.size, 0, none⟩) 64 64) rfl rfl (by as_aux_lemma => kernel_rfl) (by as_aux_lemma => kernel_rfl) (by as_aux_lemma => kernel_rfl) (fun _ _ _ h => h) (by rfl) ?h0 (by assumption) ?_
              case h0 => intro w hSw; go_simp; try with_reducible rfl
              simp only [List.setIfInBounds_toArray, List.set_cons_zero, List.set_cons_succ]
              refine Ord.take (i := 1) (d := 62) (v := ?v1r11) rfl rfl (by as_aux_lemma => kernel_rfl) (by as_aux_lemma => kernel_rfl) (by as_aux_lemma => kernel_rfl) (fun _ _ _ h => h) (by rfl) ?h1 (by assumption) ?_
              case h1 => intro w hSw; go_simp; try with_reducible rfl
              simp only [List.setIfInBounds_toArray, List.set_cons_zero, List.set_cons_succ]
              refine Ord.take (i := 2) (d := 63) (v := ?v2r11) rfl rfl (by as_aux_lemma => kernel_rfl) (by as_aux_lemma => kernel_rfl) (by as_aux_lemma => kernel_rfl) (fun _ _ _ h => h) (by rfl) ?h2 (by assumption) ?_
              case h2 => intro w hSw; go_simp; try with_reducible rfl
              simp only [List.setIfInBounds_toArray, List.set_cons_zero, List.set_cons_succ]
              refine Ord.take (i := 3) (d := 64) (v := .slice (some ⟨rg, 64 * m, none⟩) (rsn - 64 * m) (rc - 64 * m)) rfl rfl (by as_aux_lemma => kernel_rfl) (by as_aux_lemma => kernel_rfl) (by as_aux_lemma => kernel_rfl) (fun _ _ _ h => h) (by rfl) ?h3 (by assumption) ?_
              case h3 => intro w hSw; go_simp; try with_reducible rfl
              simp only [List.setIfInBounds_toArray, List.set_cons_zero, List.set_cons_succ]
              refine wpAnyH_ready (rs := [4]) (by as_aux_lemma => kernel_rfl) (by simp) (AllReadyH.cons rfl (fun K hK => ?_) AllReadyH.nil)
              rw [if_pos (by rfl)]
              refine wp_copy_run (.tmp 61) (.tmp 64) rfl _ _ _ rfl rfl HCP.out ?_
              refine hK.out _ _ trivial (fun _ => ?_)
              clear hK K HCP
              refine wpAnyH_done (by as_aux_lemma => kernel_rfl) ?_ _
              simp only [Act.put, List.setIfInBounds_toArray]
              generalize w5.setRow wr.heap.size (arr .u8 bk) = w6 at *
              have hsv6 : w6.heap[g]? = some (.cells (arr .u32 sm.list) 31 (0, 0)) := by rw [HB6.out.block g hgq]; exact HSV.out
              have hf6 := HF6.out
              have hL6 := (HLD.out.grown HGR.out h2g).later HB6.out
              have hG6 := grown_trans HGR.out (grown_below HB6.out _)
              generalize wr.heap.size = gB at *
              go_wp2_with (first
                | (refine wpList_load_row rfl 31 _ rfl g rfl 31 (arr .u32 sm.list) (0, 0) _ hsv6 Tryd.underlying31 rfl (by rw [hsz8]; exact Tryd.size31) ?_)
                | (refine wpList_load_row rfl 32 _ rfl gB rfl 32 (arr .u8 bk) (0, 0) _ hf6 Tryd.underlying32 rfl (by rw [hsz64]; exact Tryd.size32) ?_))
              go_at_call 13
              refine (HST.out _ hL6).mono ?_
              rintro _ w7 ⟨rfl, hb7⟩
              have hv7 : w7.heap[g]? = some (.cells (arr .u32 sm.list) 31 (0, 0)) := by rw [hb7.block g (Array.getElem?_eq_some_iff.1 hsv6).1]; exact hsv6
              have HG8 := hid (grown_trans hG6 (grown_trans (grown_below hb7 _) (grown_setRow w7 g (arr .u32 sn.list))))
              have HF8 := hid (setRow_heap _ _ _ (arr .u32 sn.list) _ _ hv7)
              clear hb7 hsv6 hf6 hL6 hG6 HB6 HF6 HST
              go_wp2_with (refine wpList_store_rowTo rfl 31 _ _ rfl rfl g (arr .u32 sn.list) rfl rfl 31 _ hv7 (by rw [hsnS]; exact Tryd.size31) (by rw [hsnS]; exact hsz8) (arr_one _ _) ?_)
              clear hv7
              generalize w7.setRow g (arr .u32 sn.list) = w8 at *
              go_wp2
              exact ⟨⟨m + 1, by omega, by go_num, by rw [← Nat.add_assoc, HSTP.out]; exact HF8.out, HG8.out⟩, by simp [intOf]; omega⟩
            · obtain rfl : m = M := by omega
              have hcond : ¬ 64 * (m : Int) < (rsn : Int) := by omega
              have HDG : Hid (digest (al ++ z) = Sha.bytes (blocks (8 + m) (al ++ rs) Sha.start)) := digest_blocks al z rs 8 m (by rw [HFN.out, HZN.out, HPDE.out]; exact HRSE.out) (by rw [HFN.out]; exact HALEN.out) (by rw [HRL.out]; omega)
              have hok := HOK.out (8 + m) rs
              generalize hsm : blocks (8 + m) (al ++ rs) Sha.start = sN at *
              clear hsm
              have HBY := hid (fun W : World => bytes_ref sN W hok)
              have HDL := hid (digest_length (al ++ z))
              have HTF := hid (two_flat al z)
              have hbw : Below g w1 wr := (HBEL.out.trans (HBD.out.mono (by omega))).trans (grown_bel hgr (Nat.le_refl _) (by omega))
              have hbW1 : Below w1.heap.size w1 wr := by rw [HGG.out]; exact hbw
              have HRA := hid (rd_any (own_kept HOWD.out hgr (Nat.lt_succ_self g)) HFN.out HALT.out)
              have HRB := hid (HRZ1.out.later hbW1)
              have HLw := hid (HL1.out.later hbW1)
              have HBw := hid (Bn HB1.out hbW1)
              have hgq : g < wr.heap.size := (Array.getElem?_eq_some_iff.1 hsv).1
              have hLd : ∀ w : World, Below wr.heap.size wr w → (Instr.loadAt 31 (.pointer (some ⟨g, 0, none⟩))).run Tryd.prog w = .ok (.agg (arr .u32 sN.list)) w := fun w h => load_whole (by rw [h.block _ hgq]; exact hsv) Tryd.underlying31 rfl Tryd.size31
              have HSUM := hid (fun (w : World) (h : Below wr.heap.size wr w) (c : Nat) (hc : c = w.heap.size) => sum_word (some ⟨c, 0, none⟩) 2 [al, z] _ ((HLw.out.later h).later (bel_alloc w (.cells #[.slice aa aln ca, .slice b zn capb] 35))) (Ps.two (HRA.out.later h) (HRB.out.later h) c hc) (by rw [HTF.out, List.length_append, HFN.out, HZN.out]; omega))
              rw [HTF.out] at HSUM
              have hq := eq25 (digest (al ++ z)) (digest_length _)
              have hg := guard25
              rw [← HDG.out] at HBY
              generalize digest (al ++ z) = D at *
              clear hsv hbw hbW1 hgr hok
              go_wp2_with fail
              refine wp_region_held_drew (S := fun w' => Below wr.heap.size wr w') (by as_aux_lemma => kernel_rfl) (Below.refl _ _).drew (fun hS => ?_)
              generalize wr.drew = wE at *
              refine Ord.take (i := 0) (d := 69) (v := ?v0s11) rfl rfl (by as_aux_lemma => kernel_rfl) (by as_aux_lemma => kernel_rfl) (by as_aux_lemma => kernel_rfl) (fun _ _ _ h => h) (by rfl) ?h0 (by assumption) ?_
              case h0 => intro w hSw; go_simp; try with_reducible rfl
              simp only [List.setIfInBounds_toArray, List.set_cons_zero, List.set_cons_succ]
              refine Ord.take (i := 1) (d := 70) (v := ?v1s11) rfl rfl (by as_aux_lemma => kernel_rfl) (by as_aux_lemma => kernel_rfl) (by as_aux_lemma => kernel_rfl) (fun _ _ _ h => h) (by rfl) ?h1 (by assumption) ?_
              case h1 => intro w hSw; go_simp; try with_reducible rfl
              simp only [List.setIfInBounds_toArray, List.set_cons_zero, List.set_cons_succ]
              refine Ord.take (i := 4) (d := 73) (v := .agg (arr .u32 sN.list)) rfl rfl (by as_aux_lemma => kernel_rfl) (by as_aux_lemma => kernel_rfl) (by as_aux_lemma => kernel_rfl) (fun _ _ _ h => h) (by rfl) ?h4 (by assumption) ?_
              case h4 => exact fun w hSw => run_load_op (p := .pointer (some ⟨g, 0, none⟩)) rfl rfl (hLd w hSw)
              simp only [List.setIfInBounds_toArray, List.set_cons_zero, List.set_cons_succ]
              refine wpAnyH_ready (rs := [2]) (by as_aux_lemma => kernel_rfl) (by simp) (AllReadyH.cons rfl (fun K hK => ?_) AllReadyH.nil)
              go_simp
              have hSA := Bn hS (bel_alloc wE (.cells #[.slice aa aln ca, .slice b zn capb] 35))
              have HSM := hid (HSUM.out wE hS wE.heap.size rfl)
              refine hK.out _ _ hSA (fun _ => ?_)
              clear hK K HSUM
              generalize wE.alloc (.cells #[.slice aa aln ca, .slice b zn capb] 35) = wF at *
              refine wpAnyH_ready (rs := [3]) (by as_aux_lemma => kernel_rfl) (by simp) (AllReadyH.cons rfl (fun K hK => ?_) AllReadyH.nil)
              go_simp
              refine HSM.out.mono ?_
              rintro _ x3 ⟨rfl, hb3⟩
              have hS3 := Bn hSA hb3
              refine hK.out _ _ hS3 (fun _ => ?_)
              clear hK K hb3 HSM
              refine wpAnyH_ready (rs := [5]) (by as_aux_lemma => kernel_rfl) (by simp) (AllReadyH.cons rfl (fun K hK => ?_) AllReadyH.nil)
              go_simp
              refine (HBY.out _).mono ?_
              rintro _ x5 ⟨rfl, hb5⟩
              have hS5 := Bn hS3 hb5
              refine hK.out _ _ hS5 (fun _ => ?_)
              clear hK K hb5 HBY
              refine Ord.take (i := 6) (d := 75) (v := .bool true) rfl rfl (by as_aux_lemma => kernel_rfl) (by as_aux_lemma => kernel_rfl) (by as_aux_lemma => kernel_rfl) (fun _ _ _ h => h) (by rfl) ?h6 (by assumption) ?_
              case h6 => exact fun w _ => run_eql_op rfl rfl rfl hg (hq w)
              simp only [List.setIfInBounds_toArray, List.set_cons_zero, List.set_cons_succ]
              refine Ord.take (i := 7) (d := 76) (v := ?v7s11) rfl rfl (by as_aux_lemma => kernel_rfl) (by as_aux_lemma => kernel_rfl) (by as_aux_lemma => kernel_rfl) (fun _ _ _ h => h) (by rfl) ?h7 (by assumption) ?_
              case h7 => intro w hSw; go_simp; try with_reducible rfl
              simp only [List.setIfInBounds_toArray, List.set_cons_zero, List.set_cons_succ]
              refine wpAnyH_ready (rs := [8]) (by as_aux_lemma => kernel_rfl) (by simp) (AllReadyH.cons rfl (fun K hK => ?_) AllReadyH.nil)
              go_simp
              refine (alive_any _ (HLw.out.later hS5)).mono ?_
              rintro _ x8 ⟨rfl, hb8⟩
              have hS8 := Bn hS5 hb8
              refine hK.out _ _ hS8 (fun _ => ?_)
              clear hK K hb8
              refine Ord.take (i := 9) (d := 78) (v := ?v9s11) rfl rfl (by as_aux_lemma => kernel_rfl) (by as_aux_lemma => kernel_rfl) (by as_aux_lemma => kernel_rfl) (fun _ _ _ h => h) (by rfl) ?h9 (by assumption) ?_
              case h9 => intro w hSw; go_simp; try with_reducible rfl
              simp only [List.setIfInBounds_toArray, List.set_cons_zero, List.set_cons_succ]
              refine Ord.take (i := 10) (d := 4) (v := ?v10s11) rfl rfl (by as_aux_lemma => kernel_rfl) (by as_aux_lemma => kernel_rfl) (by as_aux_lemma => kernel_rfl) (fun _ _ _ h => h) (by rfl) ?h10 (by assumption) ?_
              case h10 => intro w hSw; go_simp; try with_reducible rfl
              simp only [List.setIfInBounds_toArray, List.set_cons_zero, List.set_cons_succ]
              refine wpAnyH_done (by as_aux_lemma => kernel_rfl) ?_ _
              have HE := hid (Bn HBw.out hS8)
              clear hS hSA hS3 hS5 hS8 hq hLd
              go_wp2
              go_ret
              exact ⟨rfl, HE.out⟩
    · have h8' : (8 : Int) < (bl.length : Int) := by omega
      obtain ⟨x8, y8, rfl, _, _⟩ := hr.cells (by omega)
      have hz8 : (bl.take 8).length = 8 := by rw [List.length_take]; omega
      have HBS8 := hid (hr.take 8)
      have HN8 := hid hz8
      have h6' : ¬ (600 : Int) < (ys.length : Int) := by omega
      clear hrb hr
      clear hz8 HBS
      generalize bl.length = ln at *
      generalize bl.take 8 = bl8 at *
      generalize ys = z at *
      generalize hzn : z.length = zn at *
      have HZN := hid hzn
      have HRZ := HRB
      clear hzn HRB
      have hzn6 : zn ≤ 600 := by omega
      go_enter Tryd.func8, Tryd.ntmps8
      go_wp2_with fail
      have HBS := HBS8
      have HN := HN8
      clear HBS8 HN8 h8 h8'
      generalize (some (⟨x8, y8, none⟩ : Addr)) = a at *
      generalize bl8 = bl at *
      go_wp2_with fail
      go_at_call 17
      refine (start_word W HL.out).mono ?_
      rintro _ w1 ⟨rfl, hb1⟩
      obtain ⟨q2, f2, z2⟩ := put_state w1 Sha.start.list w1.heap.size rfl
      have hn1 := heap_new w1 (.cells (arr .u32 z8) 31)
      have HBS1 := hid (HBS.out.later hb1)
      have HRZ1 := hid (HRZ.out.later hb1)
      have HL1 := hid (HL.out.later hb1)
      have HB1 := hid hb1
      have hlw2 := HL1.out.two
      have hw01 := hb1.size
      clear hb1 HBS HRZ HL
      go_wp2_with (first
        | (refine wpList_alloc_at rfl 31 rfl (some 5) rfl (arr .u32 z8) Tryd.zero31 w1.heap.size rfl ?_)
        | (refine wpList_store_rowTo rfl 31 _ _ rfl rfl w1.heap.size (arr .u32 Sha.start.list) rfl rfl 31 _ hn1 Tryd.size31 rfl (arr_one _ _) ?_))
      generalize (w1.alloc (.cells (arr .u32 z8) 31)).setRow w1.heap.size (arr .u32 Sha.start.list) = w2 at *
      clear hn1
      have HQ2 := hid q2
      have HF2 := hid f2
      clear q2 f2
      generalize hgg : w1.heap.size = g at *
      have HGG := hid hgg
      clear hgg
      go_loopw [6, 7] (fun v i wr => ∃ k : Nat, k ≤ 8 ∧ i = .int .i64 k ∧ wr.ownsRow (g + 1) 5 1 v (bl.take k).flatten.length (V (bl.take k).flatten) ∧ wr.heap[g]? = some (.cells (arr .u32 (blocks k (bl.take k).flatten Sha.start).list) 31 (0, 0)) ∧ Below g w1 wr) (fun _ i _ => 8 - (intOf i).toNat)
      case atStart => exact ⟨0, by omega, rfl, World.ownsRow_nil _ _ _ _, HF2.out, HQ2.out⟩
      case round =>
        obtain ⟨k, hk, rfl, hown, hsv, hbel⟩ := hrel
        have hgw : g < wr.heap.size := (Array.getElem?_eq_some_iff.1 hsv).1
        have hB1 : Below w1.heap.size w1 wr := by rw [HGG.out]; exact hbel
        have HBEL := hid hbel
        have HB1r := hid hB1
        clear hB1 hbel HF2 HQ2
        by_cases hlt : k < 8
        · have hkn : (k : Int) < 8 := by omega
          have hkm : k < bl.length := by rw [HN.out]; exact hlt
          obtain ⟨bb, off, ha1, hbb, hc⟩ := HBS1.out.cells (by omega)
          subst ha1
          have hcW := HBS1.out.later HB1r.out
          obtain ⟨b2, o2, ha2, hbbr, hcr⟩ := hcW.cells (by omega)
          injection ha2 with ha2
          injection ha2 with h21 h22
          subst h21 h22
          have hy64 := HBS1.out.len k hkm
          have hylt := HBS1.out.lo k hkm
          have hcy := hcr k hkm
          have hbg : bb < g := by rw [HGG.out] at hbb; exact hbb
          have HF := hid (flat_take bl k hkm)
          have HS1 := hid (step_one bl HBS1.out.len k hkm)
          have HFL := hid (flat_len bl HBS1.out.len k (by omega))
          clear hc hcr hcW hbb hbbr
          generalize bl.getD k [] = y at *
          have hok := blocks_ok k (bl.take k).flatten Sha.start start_ok
          generalize hfl : (bl.take k).flatten = fl at *
          generalize hsb : blocks k fl Sha.start = sb at *
          have hfl64 : fl.length ≤ 512 := by have := HFL.out; omega
          have HFE := hid hfl
          clear hfl hsb
          have HLB := hid (fun (w : World) (h : wr.grownBy w (some g)) => load_block (w := w) (b := bb) (off := off + k * 64) hy64 (fun i hi => by rw [World.cell?_of_block (w := wr) (h.block bb (by omega) (by intro h; injection h with h; omega)), Nat.mul_comm k 64, Nat.add_assoc]; exact hcy i hi))
          have HST := hid (fun (w : World) (h : Laid w) => step_word sb y w hok hy64 hylt h)
          have HLR := hid (HL1.out.later HB1r.out)
          generalize Sha.step sb y = sn at *
          have hsnS : (arr .u32 sn.list).size = 8 := arr_size _ _
          have hsnI : (Tryd.prog.info? 31).map (·.size) = some (arr .u32 sn.list).size := by rw [hsnS]; exact Tryd.size31
          have hsnE : (arr .u32 sb.list).size = (arr .u32 sn.list).size := (arr_size _ _).trans hsnS.symm
          have HOW := hid hown
          have HSV := hid hsv
          have HCY := hid hcy
          have HYL := hid hylt
          clear hown hsv hcy hylt hok
          go_wp2_with fail
          refine wp_region_held_drew (S := fun w' => wr.grownBy w' (some g)) (by as_aux_lemma => kernel_rfl) (grown_drewN (grown_refl wr _) 1) (fun hS => ?_)
          have hSV : Hid (wr.drew.heap[g]? = some (.cells (arr .u32 sb.list) 31 (0, 0))) := HSV.out
          have hLD : Hid (Laid wr.drew) := HLR.out.drewN 1
          generalize wr.drew = wD at *
          refine Ord.take (i := 1) (d := 29) (v := ?v1p10) rfl rfl (by as_aux_lemma => kernel_rfl) (by as_aux_lemma => kernel_rfl) (by as_aux_lemma => kernel_rfl) (fun _ _ _ h => h) (by rfl) ?h1 (by assumption) ?_
          case h1 => intro w hSw; go_simp; try with_reducible rfl
          simp only [List.setIfInBounds_toArray, List.set_cons_zero, List.set_cons_succ]
          refine Ord.take (i := 2) (d := 30) (v := ?v2p10) rfl rfl (by as_aux_lemma => kernel_rfl) (by as_aux_lemma => kernel_rfl) (by as_aux_lemma => kernel_rfl) (fun _ _ _ h => h) (by rfl) ?h2 (by assumption) ?_
          case h2 => intro w hSw; go_simp; try with_reducible rfl
          simp only [List.setIfInBounds_toArray, List.set_cons_zero, List.set_cons_succ]
          refine Ord.take (i := 3) (d := 31) (v := .pointer (some ⟨bb, off + k * 64, none⟩)) rfl rfl (by as_aux_lemma => kernel_rfl) (by as_aux_lemma => kernel_rfl) (by as_aux_lemma => kernel_rfl) (fun _ _ _ h => h) (by rfl) ?h3 (by assumption) ?_
          case h3 => intro w hSw; go_simp; try with_reducible rfl
          simp only [List.setIfInBounds_toArray, List.set_cons_zero, List.set_cons_succ]
          refine Ord.take (i := 4) (d := 32) (v := .agg (arr .u8 y)) rfl rfl (by as_aux_lemma => kernel_rfl) (by as_aux_lemma => kernel_rfl) (by as_aux_lemma => kernel_rfl) (fun _ _ _ h => h) (by rfl) ?h4 (by assumption) ?_
          case h4 => exact fun w hSw => run_load_op (p := .pointer (some ⟨bb, off + k * 64, none⟩)) rfl rfl (HLB.out w hSw)
          simp only [List.setIfInBounds_toArray, List.set_cons_zero, List.set_cons_succ]
          refine wpAnyH_ready (rs := [0]) (by as_aux_lemma => kernel_rfl) (by simp) (AllReadyH.cons rfl (fun K hK => ?_) AllReadyH.nil)
          rw [if_pos (by rfl)]
          refine wp_load_run 31 (.tmp 5) rfl (.pointer (some ⟨g, 0, none⟩)) (.agg (arr .u32 sb.list)) rfl (load_whole hSV.out Tryd.underlying31 rfl Tryd.size31) ?_
          refine hK.out _ _ hS (fun _ => ?_)
          clear hK K
          simp only [Act.put, List.setIfInBounds_toArray]
          refine wpAnyH_ready (rs := [5]) (by as_aux_lemma => kernel_rfl) (by simp) (AllReadyH.cons rfl (fun K hK => ?_) AllReadyH.nil)
          go_simp
          refine (HST.out _ hLD.out).mono ?_
          rintro _ w3 ⟨rfl, hb3⟩
          have hS3 := grown_trans hS (grown_below hb3 _)
          have hv3 : w3.heap[g]? = some (.cells (arr .u32 sb.list) 31 (0, 0)) := by rw [hb3.block g (Array.getElem?_eq_some_iff.1 hSV.out).1]; exact hSV.out
          refine hK.out _ _ hS3 (fun _ => ?_)
          clear hK K hb3
          refine wpAnyH_ready (rs := [6]) (by as_aux_lemma => kernel_rfl) (by simp) (AllReadyH.cons rfl (fun K hK => ?_) AllReadyH.nil)
          rw [if_pos (by rfl)]
          refine wp_store_row 31 (.tmp 5) (.tmp 33) rfl g (arr .u32 sn.list) rfl rfl 31 _ hv3 hsnI hsnE (arr_one _ _) ?_
          have hS4 := grown_trans hS3 (grown_setRow w3 g (arr .u32 sn.list))
          have f4 := setRow_heap _ _ _ (arr .u32 sn.list) _ _ hv3
          refine hK.out _ _ hS4 (fun _ => ?_)
          clear hK K hv3 hS3 hSV hLD hS
          refine wpAnyH_done (by as_aux_lemma => kernel_rfl) ?_ _
          generalize w3.setRow g (arr .u32 sn.list) = w4 at *
          simp only [Act.put]
          have hown4 := own_kept HOW.out hS4 (Nat.lt_succ_self g)
          have hb4 : Below g w1 w4 := HBEL.out.trans (grown_bel hS4 (Nat.le_refl _) (by omega))
          have hz4 : g < w4.heap.size := Nat.lt_of_lt_of_le hgw hS4.size
          have hrd4 := rd_part (w := w4) (b := bb) (off := off + k * 64) hy64 HYL.out (by omega) (fun i hi => by rw [World.cell?_of_block (w := wr) (hS4.block bb (by omega) (by intro h; injection h with h; omega)), Nat.mul_comm k 64, Nat.add_assoc]; exact HCY.out i hi)
          have HF4 := hid f4
          have hsl := slice_whole bb (off + k * 64)
          clear hS4 f4 HOW HSV HLB HST HCY
          have hbd4 : fl.length + y.length ≤ 1000000 := by omega
          have hgz4 : g + 1 ≤ w4.heap.size := hz4
          go_wp2_with (at_builtin; refine app_len _ rfl _ _ rfl (g + 1) _ fl rfl hown4 (some ⟨bb, off + k * 64, none⟩) 64 y 64 rfl hy64 hrd4 hbd4 hgz4 ?_)
          intro v5 w5 hown5 hgr5
          have hb5 : Below g w1 w5 := hb4.grown hgr5 (by omega) (fun j hj => Nat.le_trans (Nat.le_succ g) (hown4.lt j hj).1)
          have f5 : w5.heap[g]? = _ := (hgr5.block g hz4 (fun h => absurd (hown4.lt g h.symm).1 (by omega))).trans HF4.out
          have R1 : Hid (w5.ownsRow (g + 1) 5 1 v5 (bl.take (k + 1)).flatten.length (V (bl.take (k + 1)).flatten)) := by show World.ownsRow _ _ _ _ _ _ _; rw [HF.out]; first | exact hown5 | (rw [List.length_append, hy64]; exact hown5)
          have R2 : Hid (w5.heap[g]? = some (.cells (arr .u32 (blocks (k + 1) (bl.take (k + 1)).flatten Sha.start).list) 31 (0, 0))) := by show _ = _; rw [HS1.out]; exact f5
          have R3 := hid hb5
          clear hown4 hown5 hgr5 hb4 hb5 f5 hrd4 HF4
          go_wp2
          exact ⟨⟨k + 1, by omega, by go_num, R1.out, R2.out, R3.out⟩, by simp [intOf]; omega⟩
        · obtain rfl : k = 8 := by omega
          have hkn : ¬ (8 : Int) < (8 : Int) := by omega
          have HALEN := hid (flat_len bl HBS1.out.len 8 (by have := HN.out; omega))
          have HALT := hid (bs_lt HBS1.out 8)
          have HLR := hid (HL1.out.later HB1r.out)
          have HSTW := hid (step_two (bl.take 8).flatten)
          generalize (bl.take 8).flatten = al at *
          have HOK := hid (fun (m : Nat) (rs : List Nat) => blocks_ok m (al ++ rs) Sha.start start_ok)
          have HAP := hid (fun (rs : List Nat) => blocks_app 8 al rs Sha.start (by rw [HALEN.out]; exact Nat.le_refl _))
          generalize hs0 : blocks 8 al Sha.start = s0 at *
          have HS0 := hid hs0
          clear hs0
          obtain ⟨aa, ca, rfl⟩ := own_slice hown
          have haln : al.length ≤ 512 := by rw [HALEN.out]; omega
          generalize hfn : al.length = aln at *
          have HFN := hid hfn
          clear hfn
          have bA := bel_alloc wr (.cells #[] 5)
          have hoA := World.ownsRow_lit (base := wr.heap.size) (e := 5) (size := 1) wr #[] 0 (Nat.le_refl _) (by unfold maxLen; omega) rfl
          have hzA : wr.heap.size ≤ (wr.alloc (.cells #[] 5)).heap.size := bA.size
          have hrdA : Rd (wr.alloc (.cells #[] 5)) (.slice b z.length capb) b capb z := by rw [HZN.out]; exact HRZ1.out.later (Bn HB1r.out bA)
          have hbdA : ([] : List Nat).length + z.length ≤ 1000000 := by rw [HZN.out]; simp; omega
          have HOWN := hid hown
          have HSV := hid hsv
          clear hown hsv
          go_wp2_with (at_builtin; refine app_len _ rfl _ _ rfl wr.heap.size _ [] rfl hoA b capb z zn rfl HZN.out hrdA hbdA hzA ?_)
          intro vB wB hownB hgrB
          have hownB2 : wB.ownsRow wr.heap.size 5 1 vB z.length (V z) := by first | exact hownB | simpa using hownB | (rw [HZN.out]; simpa using hownB)
          have hbB : Below wr.heap.size wr wB := bA.grown hgrB hzA (fun j hj => (hoA.lt j hj).1)
          have hzB := hbB.size
          have HPD := hid (fun W : World => pad_word (aln + zn) W (by omega))
          simp only [Int.natCast_add] at HPD
          have hpl := pad_length (aln + zn)
          have HPL := hid (pad_lt (aln + zn))
          have HZLT := hid HRZ1.out.hi
          generalize hpd : pad (aln + zn) = pd at *
          have HPDE := hid hpd
          clear hpd hownB hgrB bA hoA hzA hrdA hbdA
          generalize wr.alloc (.cells #[] 5) = wA at *
          go_wp2_with fail
          refine (HPD.out _).mono ?_
          rintro _ wC ⟨pv, rfl, hpo, hpb⟩
          obtain ⟨pg, pc, rfl, hpg, hprd⟩ := rd_own hpo (by omega) HPL.out
          have hownC := own_later hownB2 hpb
          have hbC : Below wr.heap.size wr wC := hbB.trans (hpb.mono hzB)
          have hzC := hbC.size
          have hbdC : z.length + pd.length ≤ 1000000 := by rw [HZN.out]; omega
          clear hpo hownB2 HPD hpg
          go_wp2_with (at_builtin; refine app_any _ rfl _ _ rfl wr.heap.size _ z rfl hownC _ pc pd rfl hprd hbdC hzC ?_)
          intro vD wD hownD hgrD
          have hownD2 : wD.ownsRow wr.heap.size 5 1 vD (z ++ pd).length (V (z ++ pd)) := by first | exact hownD | (rw [List.length_append]; exact hownD) | (rw [List.length_append, HZN.out]; exact hownD)
          have hbD : Below wr.heap.size wr wD := hbC.grown hgrD hzC (fun j hj => (hownC.lt j hj).1)
          have HRSL : Hid ((z ++ pd).length = zn + pd.length) := by show _ = _; rw [List.length_append, HZN.out]
          have HRLT := hid (getD_app z pd HZLT.out HPL.out)
          generalize hrs : z ++ pd = rs at *
          have HRSE := hid hrs
          clear hrs hownD hgrD hownC hprd hpb hbB hbC hbdC
          obtain ⟨rg, rc, rfl, hrg, hrrd⟩ := rd_own hownD2 (by rw [HRSL.out]; omega) HRLT.out
          obtain ⟨M, hMM⟩ : ∃ M, rs.length = 64 * M := ⟨rs.length / 64, by have := HRSL.out; have := HALEN.out; have := HFN.out; omega⟩
          have hM20 : M ≤ 20 := by have := HRSL.out; omega
          have HRRD := hid hrrd
          have HSVD : Hid (wD.heap[g]? = some (.cells (arr .u32 s0.list) 31 (0, 0))) := by show _ = _; rw [hbD.block g hgw]; exact HSV.out
          have HOWD := hid (own_later HOWN.out hbD)
          have HBD := hid hbD
          have hzD := hbD.size
          clear hownD2 hrrd hbD HOWN HSV
          generalize hrl : rs.length = rsn at *
          have HRL := hid hrl
          clear hrl
          have hrem : (rsn : Int) % 64 = 0 := by omega
          have hR1 : 64 * M ≤ rsn := by omega
          have hR2 : rsn ≤ 64 * M := by omega
          clear hMM
          have hrgg : g < rg := by omega
          have HRX : Hid (Rx g wD (.slice (some ⟨rg, 0, none⟩) rsn rc) (some ⟨rg, 0, none⟩) rc rs) := ⟨HRRD.out, fun _ ad had => by injection had with had; subst had; show rg ≠ g; omega⟩
          have hrc : rsn ≤ rc := by have := HRRD.out.room; have := HRL.out; omega
          have HLD := hid (HLR.out.later HBD.out)
          have hgD : g < wD.heap.size := by omega
          have h2g : 2 ≤ g := by have := HL1.out.two; have := HGG.out; omega
          go_wp2_with fail
          clear hrem
          go_loopw [9] (fun i wq => ∃ m : Nat, m ≤ M ∧ i = .int .i64 (64 * (m : Int)) ∧ wq.heap[g]? = some (.cells (arr .u32 (blocks (8 + m) (al ++ rs) Sha.start).list) 31 (0, 0)) ∧ wD.grownBy wq (some g)) (fun i _ => 64 * M + 64 - (intOf i).toNat)
          case atStart => exact ⟨0, by omega, rfl, by rw [Nat.add_zero, HAP.out]; exact HSVD.out, grown_refl _ _⟩
          case round =>
            obtain ⟨m, hm, rfl, hsv, hgr⟩ := hrel
            by_cases hmM : m < M
            · have hcond : 64 * (m : Int) < (rsn : Int) := by omega
              have hRQ := (HRX.out.kept hgr).rd
              obtain ⟨r2, o2, hae, hrgw, hac⟩ := hRQ.cells (by rw [HRL.out]; omega)
              injection hae with hae
              injection hae with h21 h22
              subst h21 h22
              have HSTP := hid (HSTW.out rs 8 m HALEN.out)
              have hb64 : ((rs.drop (64 * m)).take 64).length = 64 := by rw [List.length_take, List.length_drop, HRL.out]; omega
              have HBLT := hid (blk_lt rs HRLT.out (64 * m))
              have hcB : ∀ i, i < 64 → wr.cell? ⟨rg, 64 * m + i, none⟩ = some (.int .u8 ((((rs.drop (64 * m)).take 64).getD i 0 : Nat) : Int)) := fun i hi => by rw [blk_get rs (64 * m) i hi]; have := hac (64 * m + i) (by rw [HRL.out]; omega); rw [Nat.zero_add] at this; exact this
              have hok := HOK.out (8 + m) rs
              generalize (rs.drop (64 * m)).take 64 = bk at *
              generalize hsm : blocks (8 + m) (al ++ rs) Sha.start = sm at *
              clear hsm hac hRQ
              have HST := hid (fun (w : World) (h : Laid w) => step_word sm bk w hok hb64 HBLT.out h)
              generalize Sha.step sm bk = sn at *
              have hsnS : (arr .u32 sn.list).size = 8 := arr_size _ _
              have hsz8 : (arr .u32 sm.list).size = 8 := arr_size _ _
              have hsz64 : (arr .u8 bk).size = 64 := (arr_size _ _).trans hb64
              have hgB := heap_new wr (.cells (arr .u8 z64) 32)
              have b5 := bel_alloc wr (.cells (arr .u8 z64) 32)
              have hgq : g < wr.heap.size := (Array.getElem?_eq_some_iff.1 hsv).1
              have z5 : (wr.alloc (.cells (arr .u8 z64) 32)).heap.size = wr.heap.size + 1 := by simp
              have hs3 := slice_at rg rsn rc m (by omega) hrc
              have hs1 := slice_whole wr.heap.size 0
              have HCP := hid (fun ty => copy_block (wr.alloc (.cells (arr .u8 z64) 32)).drew wr.heap.size rg (64 * m) (rsn - 64 * m) (rc - 64 * m) bk hgB hb64 (by omega) (fun i hi => (b5.drew.cell (p := ⟨rg, 64 * m + i, none⟩) hrgw).trans (hcB i hi)) ty)
              have b6 : Below wr.heap.size wr ((wr.alloc (.cells (arr .u8 z64) 32)).drew.setRow wr.heap.size (arr .u8 bk)) := below_setRow b5.drew (Nat.le_refl _) _
              have f6 : ((wr.alloc (.cells (arr .u8 z64) 32)).drew.setRow wr.heap.size (arr .u8 bk)).heap[wr.heap.size]? = some (.cells (arr .u8 bk) 32 (0, 0)) := setRow_heap _ _ _ _ _ _ hgB
              have HB6 := hid b6
              have HF6 := hid f6
              have HSV := hid hsv
              have HGR := hid hgr
              clear b5 b6 f6 hsv hgr hok z5
              go_wp2_with (refine wpList_alloc_at rfl 32 rfl (some 10) rfl (arr .u8 z64) Tryd.zero32 wr.heap.size rfl ?_)
              clear hgB
              refine wp_region_held_drew (S := fun _ => True) (by as_aux_lemma => kernel_rfl) trivial (fun hS => ?_)
              generalize (wr.alloc (.cells (arr .u8 z64) 32)).drew = w5 at *
              refine Ord.take (i := 0) (d := 61) (v := .slice (some ⟨wr.heap.size, 0, none⟩) 64 64) rfl rfl (by as_aux_lemma => kernel_rfl) (by as_aux_lemma => kernel_rfl) (by as_aux_lemma => kernel_rfl) (fun _ _ _ h => h) (by rfl) ?h0 (by assumption) ?_
              case h0 => intro w hSw; go_simp; try with_reducible rfl
              simp only [List.setIfInBounds_toArray, List.set_cons_zero, List.set_cons_succ]
              refine Ord.take (i := 1) (d := 62) (v := ?v1r10) rfl rfl (by as_aux_lemma => kernel_rfl) (by as_aux_lemma => kernel_rfl) (by as_aux_lemma => kernel_rfl) (fun _ _ _ h => h) (by rfl) ?h1 (by assumption) ?_
              case h1 => intro w hSw; go_simp; try with_reducible rfl
              simp only [List.setIfInBounds_toArray, List.set_cons_zero, List.set_cons_succ]
              refine Ord.take (i := 2) (d := 63) (v := ?v2r10) rfl rfl (by as_aux_lemma => kernel_rfl) (by as_aux_lemma => kernel_rfl) (by as_aux_lemma => kernel_rfl) (fun _ _ _ h => h) (by rfl) ?h2 (by assumption) ?_
              case h2 => intro w hSw; go_simp; try with_reducible rfl
              simp only [List.setIfInBounds_toArray, List.set_cons_zero, List.set_cons_succ]
              refine Ord.take (i := 3) (d := 64) (v := .slice (some ⟨rg, 64 * m, none⟩) (rsn - 64 * m) (rc - 64 * m)) rfl rfl (by as_aux_lemma => kernel_rfl) (by as_aux_lemma => kernel_rfl) (by as_aux_lemma => kernel_rfl) (fun _ _ _ h => h) (by rfl) ?h3 (by assumption) ?_
              case h3 => intro w hSw; go_simp; try with_reducible rfl
              simp only [List.setIfInBounds_toArray, List.set_cons_zero, List.set_cons_succ]
              refine wpAnyH_ready (rs := [4]) (by as_aux_lemma => kernel_rfl) (by simp) (AllReadyH.cons rfl (fun K hK => ?_) AllReadyH.nil)
              rw [if_pos (by rfl)]
              refine wp_copy_run (.tmp 61) (.tmp 64) rfl _ _ _ rfl rfl HCP.out ?_
              refine hK.out _ _ trivial (fun _ => ?_)
              clear hK K HCP
              refine wpAnyH_done (by as_aux_lemma => kernel_rfl) ?_ _
              simp only [Act.put, List.setIfInBounds_toArray]
              generalize w5.setRow wr.heap.size (arr .u8 bk) = w6 at *
              have hsv6 : w6.heap[g]? = some (.cells (arr .u32 sm.list) 31 (0, 0)) := by rw [HB6.out.block g hgq]; exact HSV.out
              have hf6 := HF6.out
              have hL6 := (HLD.out.grown HGR.out h2g).later HB6.out
              have hG6 := grown_trans HGR.out (grown_below HB6.out _)
              generalize wr.heap.size = gB at *
              go_wp2_with (first
                | (refine wpList_load_row rfl 31 _ rfl g rfl 31 (arr .u32 sm.list) (0, 0) _ hsv6 Tryd.underlying31 rfl (by rw [hsz8]; exact Tryd.size31) ?_)
                | (refine wpList_load_row rfl 32 _ rfl gB rfl 32 (arr .u8 bk) (0, 0) _ hf6 Tryd.underlying32 rfl (by rw [hsz64]; exact Tryd.size32) ?_))
              go_at_call 13
              refine (HST.out _ hL6).mono ?_
              rintro _ w7 ⟨rfl, hb7⟩
              have hv7 : w7.heap[g]? = some (.cells (arr .u32 sm.list) 31 (0, 0)) := by rw [hb7.block g (Array.getElem?_eq_some_iff.1 hsv6).1]; exact hsv6
              have HG8 := hid (grown_trans hG6 (grown_trans (grown_below hb7 _) (grown_setRow w7 g (arr .u32 sn.list))))
              have HF8 := hid (setRow_heap _ _ _ (arr .u32 sn.list) _ _ hv7)
              clear hb7 hsv6 hf6 hL6 hG6 HB6 HF6 HST
              go_wp2_with (refine wpList_store_rowTo rfl 31 _ _ rfl rfl g (arr .u32 sn.list) rfl rfl 31 _ hv7 (by rw [hsnS]; exact Tryd.size31) (by rw [hsnS]; exact hsz8) (arr_one _ _) ?_)
              clear hv7
              generalize w7.setRow g (arr .u32 sn.list) = w8 at *
              go_wp2
              exact ⟨⟨m + 1, by omega, by go_num, by rw [← Nat.add_assoc, HSTP.out]; exact HF8.out, HG8.out⟩, by simp [intOf]; omega⟩
            · obtain rfl : m = M := by omega
              have hcond : ¬ 64 * (m : Int) < (rsn : Int) := by omega
              have HDG : Hid (digest (al ++ z) = Sha.bytes (blocks (8 + m) (al ++ rs) Sha.start)) := digest_blocks al z rs 8 m (by rw [HFN.out, HZN.out, HPDE.out]; exact HRSE.out) (by rw [HFN.out]; exact HALEN.out) (by rw [HRL.out]; omega)
              have hok := HOK.out (8 + m) rs
              generalize hsm : blocks (8 + m) (al ++ rs) Sha.start = sN at *
              clear hsm
              have HBY := hid (fun W : World => bytes_ref sN W hok)
              have HDL := hid (digest_length (al ++ z))
              have HTF := hid (two_flat al z)
              have hbw : Below g w1 wr := (HBEL.out.trans (HBD.out.mono (by omega))).trans (grown_bel hgr (Nat.le_refl _) (by omega))
              have hbW1 : Below w1.heap.size w1 wr := by rw [HGG.out]; exact hbw
              have HRA := hid (rd_any (own_kept HOWD.out hgr (Nat.lt_succ_self g)) HFN.out HALT.out)
              have HRB := hid (HRZ1.out.later hbW1)
              have HLw := hid (HL1.out.later hbW1)
              have HBw := hid (Bn HB1.out hbW1)
              have hgq : g < wr.heap.size := (Array.getElem?_eq_some_iff.1 hsv).1
              have hLd : ∀ w : World, Below wr.heap.size wr w → (Instr.loadAt 31 (.pointer (some ⟨g, 0, none⟩))).run Tryd.prog w = .ok (.agg (arr .u32 sN.list)) w := fun w h => load_whole (by rw [h.block _ hgq]; exact hsv) Tryd.underlying31 rfl Tryd.size31
              have HSUM := hid (fun (w : World) (h : Below wr.heap.size wr w) (c : Nat) (hc : c = w.heap.size) => sum_word (some ⟨c, 0, none⟩) 2 [al, z] _ ((HLw.out.later h).later (bel_alloc w (.cells #[.slice aa aln ca, .slice b zn capb] 35))) (Ps.two (HRA.out.later h) (HRB.out.later h) c hc) (by rw [HTF.out, List.length_append, HFN.out, HZN.out]; omega))
              rw [HTF.out] at HSUM
              have hq := eq25 (digest (al ++ z)) (digest_length _)
              have hg := guard25
              rw [← HDG.out] at HBY
              generalize digest (al ++ z) = D at *
              clear hsv hbw hbW1 hgr hok
              go_wp2_with fail
              refine wp_region_held_drew (S := fun w' => Below wr.heap.size wr w') (by as_aux_lemma => kernel_rfl) (Below.refl _ _).drew (fun hS => ?_)
              generalize wr.drew = wE at *
              refine Ord.take (i := 0) (d := 69) (v := ?v0s10) rfl rfl (by as_aux_lemma => kernel_rfl) (by as_aux_lemma => kernel_rfl) (by as_aux_lemma => kernel_rfl) (fun _ _ _ h => h) (by rfl) ?h0 (by assumption) ?_
              case h0 => intro w hSw; go_simp; try with_reducible rfl
              simp only [List.setIfInBounds_toArray, List.set_cons_zero, List.set_cons_succ]
              refine Ord.take (i := 1) (d := 70) (v := ?v1s10) rfl rfl (by as_aux_lemma => kernel_rfl) (by as_aux_lemma => kernel_rfl) (by as_aux_lemma => kernel_rfl) (fun _ _ _ h => h) (by rfl) ?h1 (by assumption) ?_
              case h1 => intro w hSw; go_simp; try with_reducible rfl
              simp only [List.setIfInBounds_toArray, List.set_cons_zero, List.set_cons_succ]
              refine Ord.take (i := 4) (d := 73) (v := .agg (arr .u32 sN.list)) rfl rfl (by as_aux_lemma => kernel_rfl) (by as_aux_lemma => kernel_rfl) (by as_aux_lemma => kernel_rfl) (fun _ _ _ h => h) (by rfl) ?h4 (by assumption) ?_
              case h4 => exact fun w hSw => run_load_op (p := .pointer (some ⟨g, 0, none⟩)) rfl rfl (hLd w hSw)
              simp only [List.setIfInBounds_toArray, List.set_cons_zero, List.set_cons_succ]
              refine wpAnyH_ready (rs := [2]) (by as_aux_lemma => kernel_rfl) (by simp) (AllReadyH.cons rfl (fun K hK => ?_) AllReadyH.nil)
              go_simp
              have hSA := Bn hS (bel_alloc wE (.cells #[.slice aa aln ca, .slice b zn capb] 35))
              have HSM := hid (HSUM.out wE hS wE.heap.size rfl)
              refine hK.out _ _ hSA (fun _ => ?_)
              clear hK K HSUM
              generalize wE.alloc (.cells #[.slice aa aln ca, .slice b zn capb] 35) = wF at *
              refine wpAnyH_ready (rs := [3]) (by as_aux_lemma => kernel_rfl) (by simp) (AllReadyH.cons rfl (fun K hK => ?_) AllReadyH.nil)
              go_simp
              refine HSM.out.mono ?_
              rintro _ x3 ⟨rfl, hb3⟩
              have hS3 := Bn hSA hb3
              refine hK.out _ _ hS3 (fun _ => ?_)
              clear hK K hb3 HSM
              refine wpAnyH_ready (rs := [5]) (by as_aux_lemma => kernel_rfl) (by simp) (AllReadyH.cons rfl (fun K hK => ?_) AllReadyH.nil)
              go_simp
              refine (HBY.out _).mono ?_
              rintro _ x5 ⟨rfl, hb5⟩
              have hS5 := Bn hS3 hb5
              refine hK.out _ _ hS5 (fun _ => ?_)
              clear hK K hb5 HBY
              refine Ord.take (i := 6) (d := 75) (v := .bool true) rfl rfl (by as_aux_lemma => kernel_rfl) (by as_aux_lemma => kernel_rfl) (by as_aux_lemma => kernel_rfl) (fun _ _ _ h => h) (by rfl) ?h6 (by assumption) ?_
              case h6 => exact fun w _ => run_eql_op rfl rfl rfl hg (hq w)
              simp only [List.setIfInBounds_toArray, List.set_cons_zero, List.set_cons_succ]
              refine Ord.take (i := 7) (d := 76) (v := ?v7s10) rfl rfl (by as_aux_lemma => kernel_rfl) (by as_aux_lemma => kernel_rfl) (by as_aux_lemma => kernel_rfl) (fun _ _ _ h => h) (by rfl) ?h7 (by assumption) ?_
              case h7 => intro w hSw; go_simp; try with_reducible rfl
              simp only [List.setIfInBounds_toArray, List.set_cons_zero, List.set_cons_succ]
              refine wpAnyH_ready (rs := [8]) (by as_aux_lemma => kernel_rfl) (by simp) (AllReadyH.cons rfl (fun K hK => ?_) AllReadyH.nil)
              go_simp
              refine (alive_any _ (HLw.out.later hS5)).mono ?_
              rintro _ x8 ⟨rfl, hb8⟩
              have hS8 := Bn hS5 hb8
              refine hK.out _ _ hS8 (fun _ => ?_)
              clear hK K hb8
              refine Ord.take (i := 9) (d := 78) (v := ?v9s10) rfl rfl (by as_aux_lemma => kernel_rfl) (by as_aux_lemma => kernel_rfl) (by as_aux_lemma => kernel_rfl) (fun _ _ _ h => h) (by rfl) ?h9 (by assumption) ?_
              case h9 => intro w hSw; go_simp; try with_reducible rfl
              simp only [List.setIfInBounds_toArray, List.set_cons_zero, List.set_cons_succ]
              refine Ord.take (i := 10) (d := 4) (v := ?v10s10) rfl rfl (by as_aux_lemma => kernel_rfl) (by as_aux_lemma => kernel_rfl) (by as_aux_lemma => kernel_rfl) (fun _ _ _ h => h) (by rfl) ?h10 (by assumption) ?_
              case h10 => intro w hSw; go_simp; try with_reducible rfl
              simp only [List.setIfInBounds_toArray, List.set_cons_zero, List.set_cons_succ]
              refine wpAnyH_done (by as_aux_lemma => kernel_rfl) ?_ _
              have HE := hid (Bn HBw.out hS8)
              clear hS hSA hS3 hS5 hS8 hq hLd
              go_wp2
              go_ret
              exact ⟨rfl, HE.out⟩
  · by_cases h6 : 600 < ys.length
    · have h8' : ¬ (8 : Int) < (bl.length : Int) := by omega
      have h6' : (600 : Int) < (ys.length : Int) := by omega
      obtain ⟨x, y, rfl, _, _⟩ := hrb.cells (by omega)
      have hz6 : (ys.take 600).length = 600 := by rw [List.length_take]; omega
      have hrz := hrb.take 600
      rw [hz6] at hrz
      have HRZ0 := hid hrz
      have HZN0 := hid hz6
      clear hrz hz6 HRB
      generalize ys.take 600 = z at *
      generalize ys.length = yn0 at *
      clear hrb hr
      generalize hn : bl.length = n at *
      have HN := hid hn
      clear hn
      go_enter Tryd.func8, Tryd.ntmps8
      go_wp2_with fail
      obtain ⟨zn, hzn⟩ : ∃ n : Nat, n = 600 := ⟨_, rfl⟩
      rw [show (600 : Nat) = zn from hzn.symm]
      have HRZ : Hid (Rd W (.slice (some ⟨x, y, none⟩) zn capb) (some ⟨x, y, none⟩) capb z) := by show Rd _ _ _ _ _; rw [hzn]; exact HRZ0.out
      have HZN : Hid (z.length = zn) := by show _ = _; rw [hzn]; exact HZN0.out
      have hzn6 : zn ≤ 600 := by omega
      clear hzn HRZ0 HZN0 h6 h6'
      generalize (some (⟨x, y, none⟩ : Addr)) = b at *
      go_wp2_with fail
      go_at_call 17
      refine (start_word W HL.out).mono ?_
      rintro _ w1 ⟨rfl, hb1⟩
      obtain ⟨q2, f2, z2⟩ := put_state w1 Sha.start.list w1.heap.size rfl
      have hn1 := heap_new w1 (.cells (arr .u32 z8) 31)
      have HBS1 := hid (HBS.out.later hb1)
      have HRZ1 := hid (HRZ.out.later hb1)
      have HL1 := hid (HL.out.later hb1)
      have HB1 := hid hb1
      have hlw2 := HL1.out.two
      have hw01 := hb1.size
      clear hb1 HBS HRZ HL
      go_wp2_with (first
        | (refine wpList_alloc_at rfl 31 rfl (some 5) rfl (arr .u32 z8) Tryd.zero31 w1.heap.size rfl ?_)
        | (refine wpList_store_rowTo rfl 31 _ _ rfl rfl w1.heap.size (arr .u32 Sha.start.list) rfl rfl 31 _ hn1 Tryd.size31 rfl (arr_one _ _) ?_))
      generalize (w1.alloc (.cells (arr .u32 z8) 31)).setRow w1.heap.size (arr .u32 Sha.start.list) = w2 at *
      clear hn1
      have HQ2 := hid q2
      have HF2 := hid f2
      clear q2 f2
      generalize hgg : w1.heap.size = g at *
      have HGG := hid hgg
      clear hgg
      go_loopw [6, 7] (fun v i wr => ∃ k : Nat, k ≤ n ∧ i = .int .i64 k ∧ wr.ownsRow (g + 1) 5 1 v (bl.take k).flatten.length (V (bl.take k).flatten) ∧ wr.heap[g]? = some (.cells (arr .u32 (blocks k (bl.take k).flatten Sha.start).list) 31 (0, 0)) ∧ Below g w1 wr) (fun _ i _ => 8 - (intOf i).toNat)
      case atStart => exact ⟨0, by omega, rfl, World.ownsRow_nil _ _ _ _, HF2.out, HQ2.out⟩
      case round =>
        obtain ⟨k, hk, rfl, hown, hsv, hbel⟩ := hrel
        have hgw : g < wr.heap.size := (Array.getElem?_eq_some_iff.1 hsv).1
        have hB1 : Below w1.heap.size w1 wr := by rw [HGG.out]; exact hbel
        have HBEL := hid hbel
        have HB1r := hid hB1
        clear hB1 hbel HF2 HQ2
        by_cases hlt : k < n
        · have hkn : (k : Int) < (n : Int) := by omega
          have hkm : k < bl.length := by rw [HN.out]; exact hlt
          obtain ⟨bb, off, ha1, hbb, hc⟩ := HBS1.out.cells (by omega)
          subst ha1
          have hcW := HBS1.out.later HB1r.out
          obtain ⟨b2, o2, ha2, hbbr, hcr⟩ := hcW.cells (by omega)
          injection ha2 with ha2
          injection ha2 with h21 h22
          subst h21 h22
          have hy64 := HBS1.out.len k hkm
          have hylt := HBS1.out.lo k hkm
          have hcy := hcr k hkm
          have hbg : bb < g := by rw [HGG.out] at hbb; exact hbb
          have HF := hid (flat_take bl k hkm)
          have HS1 := hid (step_one bl HBS1.out.len k hkm)
          have HFL := hid (flat_len bl HBS1.out.len k (by omega))
          clear hc hcr hcW hbb hbbr
          generalize bl.getD k [] = y at *
          have hok := blocks_ok k (bl.take k).flatten Sha.start start_ok
          generalize hfl : (bl.take k).flatten = fl at *
          generalize hsb : blocks k fl Sha.start = sb at *
          have hfl64 : fl.length ≤ 512 := by have := HFL.out; omega
          have HFE := hid hfl
          clear hfl hsb
          have HLB := hid (fun (w : World) (h : wr.grownBy w (some g)) => load_block (w := w) (b := bb) (off := off + k * 64) hy64 (fun i hi => by rw [World.cell?_of_block (w := wr) (h.block bb (by omega) (by intro h; injection h with h; omega)), Nat.mul_comm k 64, Nat.add_assoc]; exact hcy i hi))
          have HST := hid (fun (w : World) (h : Laid w) => step_word sb y w hok hy64 hylt h)
          have HLR := hid (HL1.out.later HB1r.out)
          generalize Sha.step sb y = sn at *
          have hsnS : (arr .u32 sn.list).size = 8 := arr_size _ _
          have hsnI : (Tryd.prog.info? 31).map (·.size) = some (arr .u32 sn.list).size := by rw [hsnS]; exact Tryd.size31
          have hsnE : (arr .u32 sb.list).size = (arr .u32 sn.list).size := (arr_size _ _).trans hsnS.symm
          have HOW := hid hown
          have HSV := hid hsv
          have HCY := hid hcy
          have HYL := hid hylt
          clear hown hsv hcy hylt hok
          go_wp2_with fail
          refine wp_region_held_drew (S := fun w' => wr.grownBy w' (some g)) (by as_aux_lemma => kernel_rfl) (grown_drewN (grown_refl wr _) 1) (fun hS => ?_)
          have hSV : Hid (wr.drew.heap[g]? = some (.cells (arr .u32 sb.list) 31 (0, 0))) := HSV.out
          have hLD : Hid (Laid wr.drew) := HLR.out.drewN 1
          generalize wr.drew = wD at *
          refine Ord.take (i := 1) (d := 29) (v := ?v1p01) rfl rfl (by as_aux_lemma => kernel_rfl) (by as_aux_lemma => kernel_rfl) (by as_aux_lemma => kernel_rfl) (fun _ _ _ h => h) (by rfl) ?h1 (by assumption) ?_
          case h1 => intro w hSw; go_simp; try with_reducible rfl
          simp only [List.setIfInBounds_toArray, List.set_cons_zero, List.set_cons_succ]
          refine Ord.take (i := 2) (d := 30) (v := ?v2p01) rfl rfl (by as_aux_lemma => kernel_rfl) (by as_aux_lemma => kernel_rfl) (by as_aux_lemma => kernel_rfl) (fun _ _ _ h => h) (by rfl) ?h2 (by assumption) ?_
          case h2 => intro w hSw; go_simp; try with_reducible rfl
          simp only [List.setIfInBounds_toArray, List.set_cons_zero, List.set_cons_succ]
          refine Ord.take (i := 3) (d := 31) (v := .pointer (some ⟨bb, off + k * 64, none⟩)) rfl rfl (by as_aux_lemma => kernel_rfl) (by as_aux_lemma => kernel_rfl) (by as_aux_lemma => kernel_rfl) (fun _ _ _ h => h) (by rfl) ?h3 (by assumption) ?_
          case h3 => intro w hSw; go_simp; try with_reducible rfl
          simp only [List.setIfInBounds_toArray, List.set_cons_zero, List.set_cons_succ]
          refine Ord.take (i := 4) (d := 32) (v := .agg (arr .u8 y)) rfl rfl (by as_aux_lemma => kernel_rfl) (by as_aux_lemma => kernel_rfl) (by as_aux_lemma => kernel_rfl) (fun _ _ _ h => h) (by rfl) ?h4 (by assumption) ?_
          case h4 => exact fun w hSw => run_load_op (p := .pointer (some ⟨bb, off + k * 64, none⟩)) rfl rfl (HLB.out w hSw)
          simp only [List.setIfInBounds_toArray, List.set_cons_zero, List.set_cons_succ]
          refine wpAnyH_ready (rs := [0]) (by as_aux_lemma => kernel_rfl) (by simp) (AllReadyH.cons rfl (fun K hK => ?_) AllReadyH.nil)
          rw [if_pos (by rfl)]
          refine wp_load_run 31 (.tmp 5) rfl (.pointer (some ⟨g, 0, none⟩)) (.agg (arr .u32 sb.list)) rfl (load_whole hSV.out Tryd.underlying31 rfl Tryd.size31) ?_
          refine hK.out _ _ hS (fun _ => ?_)
          clear hK K
          simp only [Act.put, List.setIfInBounds_toArray]
          refine wpAnyH_ready (rs := [5]) (by as_aux_lemma => kernel_rfl) (by simp) (AllReadyH.cons rfl (fun K hK => ?_) AllReadyH.nil)
          go_simp
          refine (HST.out _ hLD.out).mono ?_
          rintro _ w3 ⟨rfl, hb3⟩
          have hS3 := grown_trans hS (grown_below hb3 _)
          have hv3 : w3.heap[g]? = some (.cells (arr .u32 sb.list) 31 (0, 0)) := by rw [hb3.block g (Array.getElem?_eq_some_iff.1 hSV.out).1]; exact hSV.out
          refine hK.out _ _ hS3 (fun _ => ?_)
          clear hK K hb3
          refine wpAnyH_ready (rs := [6]) (by as_aux_lemma => kernel_rfl) (by simp) (AllReadyH.cons rfl (fun K hK => ?_) AllReadyH.nil)
          rw [if_pos (by rfl)]
          refine wp_store_row 31 (.tmp 5) (.tmp 33) rfl g (arr .u32 sn.list) rfl rfl 31 _ hv3 hsnI hsnE (arr_one _ _) ?_
          have hS4 := grown_trans hS3 (grown_setRow w3 g (arr .u32 sn.list))
          have f4 := setRow_heap _ _ _ (arr .u32 sn.list) _ _ hv3
          refine hK.out _ _ hS4 (fun _ => ?_)
          clear hK K hv3 hS3 hSV hLD hS
          refine wpAnyH_done (by as_aux_lemma => kernel_rfl) ?_ _
          generalize w3.setRow g (arr .u32 sn.list) = w4 at *
          simp only [Act.put]
          have hown4 := own_kept HOW.out hS4 (Nat.lt_succ_self g)
          have hb4 : Below g w1 w4 := HBEL.out.trans (grown_bel hS4 (Nat.le_refl _) (by omega))
          have hz4 : g < w4.heap.size := Nat.lt_of_lt_of_le hgw hS4.size
          have hrd4 := rd_part (w := w4) (b := bb) (off := off + k * 64) hy64 HYL.out (by omega) (fun i hi => by rw [World.cell?_of_block (w := wr) (hS4.block bb (by omega) (by intro h; injection h with h; omega)), Nat.mul_comm k 64, Nat.add_assoc]; exact HCY.out i hi)
          have HF4 := hid f4
          have hsl := slice_whole bb (off + k * 64)
          clear hS4 f4 HOW HSV HLB HST HCY
          have hbd4 : fl.length + y.length ≤ 1000000 := by omega
          have hgz4 : g + 1 ≤ w4.heap.size := hz4
          go_wp2_with (at_builtin; refine app_len _ rfl _ _ rfl (g + 1) _ fl rfl hown4 (some ⟨bb, off + k * 64, none⟩) 64 y 64 rfl hy64 hrd4 hbd4 hgz4 ?_)
          intro v5 w5 hown5 hgr5
          have hb5 : Below g w1 w5 := hb4.grown hgr5 (by omega) (fun j hj => Nat.le_trans (Nat.le_succ g) (hown4.lt j hj).1)
          have f5 : w5.heap[g]? = _ := (hgr5.block g hz4 (fun h => absurd (hown4.lt g h.symm).1 (by omega))).trans HF4.out
          have R1 : Hid (w5.ownsRow (g + 1) 5 1 v5 (bl.take (k + 1)).flatten.length (V (bl.take (k + 1)).flatten)) := by show World.ownsRow _ _ _ _ _ _ _; rw [HF.out]; first | exact hown5 | (rw [List.length_append, hy64]; exact hown5)
          have R2 : Hid (w5.heap[g]? = some (.cells (arr .u32 (blocks (k + 1) (bl.take (k + 1)).flatten Sha.start).list) 31 (0, 0))) := by show _ = _; rw [HS1.out]; exact f5
          have R3 := hid hb5
          clear hown4 hown5 hgr5 hb4 hb5 f5 hrd4 HF4
          go_wp2
          exact ⟨⟨k + 1, by omega, by go_num, R1.out, R2.out, R3.out⟩, by simp [intOf]; omega⟩
        · obtain rfl : k = n := by omega
          have hkn : ¬ (k : Int) < (k : Int) := by omega
          have HALEN := hid (flat_len bl HBS1.out.len k (by have := HN.out; omega))
          have HALT := hid (bs_lt HBS1.out k)
          have HLR := hid (HL1.out.later HB1r.out)
          have HSTW := hid (step_two (bl.take k).flatten)
          generalize (bl.take k).flatten = al at *
          have HOK := hid (fun (m : Nat) (rs : List Nat) => blocks_ok m (al ++ rs) Sha.start start_ok)
          have HAP := hid (fun (rs : List Nat) => blocks_app k al rs Sha.start (by rw [HALEN.out]; exact Nat.le_refl _))
          generalize hs0 : blocks k al Sha.start = s0 at *
          have HS0 := hid hs0
          clear hs0
          obtain ⟨aa, ca, rfl⟩ := own_slice hown
          have haln : al.length ≤ 512 := by rw [HALEN.out]; omega
          generalize hfn : al.length = aln at *
          have HFN := hid hfn
          clear hfn
          have bA := bel_alloc wr (.cells #[] 5)
          have hoA := World.ownsRow_lit (base := wr.heap.size) (e := 5) (size := 1) wr #[] 0 (Nat.le_refl _) (by unfold maxLen; omega) rfl
          have hzA : wr.heap.size ≤ (wr.alloc (.cells #[] 5)).heap.size := bA.size
          have hrdA : Rd (wr.alloc (.cells #[] 5)) (.slice b z.length capb) b capb z := by rw [HZN.out]; exact HRZ1.out.later (Bn HB1r.out bA)
          have hbdA : ([] : List Nat).length + z.length ≤ 1000000 := by rw [HZN.out]; simp; omega
          have HOWN := hid hown
          have HSV := hid hsv
          clear hown hsv
          go_wp2_with (at_builtin; refine app_len _ rfl _ _ rfl wr.heap.size _ [] rfl hoA b capb z zn rfl HZN.out hrdA hbdA hzA ?_)
          intro vB wB hownB hgrB
          have hownB2 : wB.ownsRow wr.heap.size 5 1 vB z.length (V z) := by first | exact hownB | simpa using hownB | (rw [HZN.out]; simpa using hownB)
          have hbB : Below wr.heap.size wr wB := bA.grown hgrB hzA (fun j hj => (hoA.lt j hj).1)
          have hzB := hbB.size
          have HPD := hid (fun W : World => pad_word (aln + zn) W (by omega))
          simp only [Int.natCast_add] at HPD
          have hpl := pad_length (aln + zn)
          have HPL := hid (pad_lt (aln + zn))
          have HZLT := hid HRZ1.out.hi
          generalize hpd : pad (aln + zn) = pd at *
          have HPDE := hid hpd
          clear hpd hownB hgrB bA hoA hzA hrdA hbdA
          generalize wr.alloc (.cells #[] 5) = wA at *
          go_wp2_with fail
          refine (HPD.out _).mono ?_
          rintro _ wC ⟨pv, rfl, hpo, hpb⟩
          obtain ⟨pg, pc, rfl, hpg, hprd⟩ := rd_own hpo (by omega) HPL.out
          have hownC := own_later hownB2 hpb
          have hbC : Below wr.heap.size wr wC := hbB.trans (hpb.mono hzB)
          have hzC := hbC.size
          have hbdC : z.length + pd.length ≤ 1000000 := by rw [HZN.out]; omega
          clear hpo hownB2 HPD hpg
          go_wp2_with (at_builtin; refine app_any _ rfl _ _ rfl wr.heap.size _ z rfl hownC _ pc pd rfl hprd hbdC hzC ?_)
          intro vD wD hownD hgrD
          have hownD2 : wD.ownsRow wr.heap.size 5 1 vD (z ++ pd).length (V (z ++ pd)) := by first | exact hownD | (rw [List.length_append]; exact hownD) | (rw [List.length_append, HZN.out]; exact hownD)
          have hbD : Below wr.heap.size wr wD := hbC.grown hgrD hzC (fun j hj => (hownC.lt j hj).1)
          have HRSL : Hid ((z ++ pd).length = zn + pd.length) := by show _ = _; rw [List.length_append, HZN.out]
          have HRLT := hid (getD_app z pd HZLT.out HPL.out)
          generalize hrs : z ++ pd = rs at *
          have HRSE := hid hrs
          clear hrs hownD hgrD hownC hprd hpb hbB hbC hbdC
          obtain ⟨rg, rc, rfl, hrg, hrrd⟩ := rd_own hownD2 (by rw [HRSL.out]; omega) HRLT.out
          obtain ⟨M, hMM⟩ : ∃ M, rs.length = 64 * M := ⟨rs.length / 64, by have := HRSL.out; have := HALEN.out; have := HFN.out; omega⟩
          have hM20 : M ≤ 20 := by have := HRSL.out; omega
          have HRRD := hid hrrd
          have HSVD : Hid (wD.heap[g]? = some (.cells (arr .u32 s0.list) 31 (0, 0))) := by show _ = _; rw [hbD.block g hgw]; exact HSV.out
          have HOWD := hid (own_later HOWN.out hbD)
          have HBD := hid hbD
          have hzD := hbD.size
          clear hownD2 hrrd hbD HOWN HSV
          generalize hrl : rs.length = rsn at *
          have HRL := hid hrl
          clear hrl
          have hrem : (rsn : Int) % 64 = 0 := by omega
          have hR1 : 64 * M ≤ rsn := by omega
          have hR2 : rsn ≤ 64 * M := by omega
          clear hMM
          have hrgg : g < rg := by omega
          have HRX : Hid (Rx g wD (.slice (some ⟨rg, 0, none⟩) rsn rc) (some ⟨rg, 0, none⟩) rc rs) := ⟨HRRD.out, fun _ ad had => by injection had with had; subst had; show rg ≠ g; omega⟩
          have hrc : rsn ≤ rc := by have := HRRD.out.room; have := HRL.out; omega
          have HLD := hid (HLR.out.later HBD.out)
          have hgD : g < wD.heap.size := by omega
          have h2g : 2 ≤ g := by have := HL1.out.two; have := HGG.out; omega
          go_wp2_with fail
          clear hrem
          go_loopw [9] (fun i wq => ∃ m : Nat, m ≤ M ∧ i = .int .i64 (64 * (m : Int)) ∧ wq.heap[g]? = some (.cells (arr .u32 (blocks (k + m) (al ++ rs) Sha.start).list) 31 (0, 0)) ∧ wD.grownBy wq (some g)) (fun i _ => 64 * M + 64 - (intOf i).toNat)
          case atStart => exact ⟨0, by omega, rfl, by rw [Nat.add_zero, HAP.out]; exact HSVD.out, grown_refl _ _⟩
          case round =>
            obtain ⟨m, hm, rfl, hsv, hgr⟩ := hrel
            by_cases hmM : m < M
            · have hcond : 64 * (m : Int) < (rsn : Int) := by omega
              have hRQ := (HRX.out.kept hgr).rd
              obtain ⟨r2, o2, hae, hrgw, hac⟩ := hRQ.cells (by rw [HRL.out]; omega)
              injection hae with hae
              injection hae with h21 h22
              subst h21 h22
              have HSTP := hid (HSTW.out rs k m HALEN.out)
              have hb64 : ((rs.drop (64 * m)).take 64).length = 64 := by rw [List.length_take, List.length_drop, HRL.out]; omega
              have HBLT := hid (blk_lt rs HRLT.out (64 * m))
              have hcB : ∀ i, i < 64 → wr.cell? ⟨rg, 64 * m + i, none⟩ = some (.int .u8 ((((rs.drop (64 * m)).take 64).getD i 0 : Nat) : Int)) := fun i hi => by rw [blk_get rs (64 * m) i hi]; have := hac (64 * m + i) (by rw [HRL.out]; omega); rw [Nat.zero_add] at this; exact this
              have hok := HOK.out (k + m) rs
              generalize (rs.drop (64 * m)).take 64 = bk at *
              generalize hsm : blocks (k + m) (al ++ rs) Sha.start = sm at *
              clear hsm hac hRQ
              have HST := hid (fun (w : World) (h : Laid w) => step_word sm bk w hok hb64 HBLT.out h)
              generalize Sha.step sm bk = sn at *
              have hsnS : (arr .u32 sn.list).size = 8 := arr_size _ _
              have hsz8 : (arr .u32 sm.list).size = 8 := arr_size _ _
              have hsz64 : (arr .u8 bk).size = 64 := (arr_size _ _).trans hb64
              have hgB := heap_new wr (.cells (arr .u8 z64) 32)
              have b5 := bel_alloc wr (.cells (arr .u8 z64) 32)
              have hgq : g < wr.heap.size := (Array.getElem?_eq_some_iff.1 hsv).1
              have z5 : (wr.alloc (.cells (arr .u8 z64) 32)).heap.size = wr.heap.size + 1 := by simp
              have hs3 := slice_at rg rsn rc m (by omega) hrc
              have hs1 := slice_whole wr.heap.size 0
              have HCP := hid (fun ty => copy_block (wr.alloc (.cells (arr .u8 z64) 32)).drew wr.heap.size rg (64 * m) (rsn - 64 * m) (rc - 64 * m) bk hgB hb64 (by omega) (fun i hi => (b5.drew.cell (p := ⟨rg, 64 * m + i, none⟩) hrgw).trans (hcB i hi)) ty)
              have b6 : Below wr.heap.size wr ((wr.alloc (.cells (arr .u8 z64) 32)).drew.setRow wr.heap.size (arr .u8 bk)) := below_setRow b5.drew (Nat.le_refl _) _
              have f6 : ((wr.alloc (.cells (arr .u8 z64) 32)).drew.setRow wr.heap.size (arr .u8 bk)).heap[wr.heap.size]? = some (.cells (arr .u8 bk) 32 (0, 0)) := setRow_heap _ _ _ _ _ _ hgB
              have HB6 := hid b6
              have HF6 := hid f6
              have HSV := hid hsv
              have HGR := hid hgr
              clear b5 b6 f6 hsv hgr hok z5
              go_wp2_with (refine wpList_alloc_at rfl 32 rfl (some 10) rfl (arr .u8 z64) Tryd.zero32 wr.heap.size rfl ?_)
              clear hgB
              refine wp_region_held_drew (S := fun _ => True) (by as_aux_lemma => kernel_rfl) trivial (fun hS => ?_)
              generalize (wr.alloc (.cells (arr .u8 z64) 32)).drew = w5 at *
              refine Ord.take (i := 0) (d := 61) (v := .slice (some ⟨wr.heap.size, 0, none⟩) 64 64) rfl rfl (by as_aux_lemma => kernel_rfl) (by as_aux_lemma => kernel_rfl) (by as_aux_lemma => kernel_rfl) (fun _ _ _ h => h) (by rfl) ?h0 (by assumption) ?_
              case h0 => intro w hSw; go_simp; try with_reducible rfl
              simp only [List.setIfInBounds_toArray, List.set_cons_zero, List.set_cons_succ]
              refine Ord.take (i := 1) (d := 62) (v := ?v1r01) rfl rfl (by as_aux_lemma => kernel_rfl) (by as_aux_lemma => kernel_rfl) (by as_aux_lemma => kernel_rfl) (fun _ _ _ h => h) (by rfl) ?h1 (by assumption) ?_
              case h1 => intro w hSw; go_simp; try with_reducible rfl
              simp only [List.setIfInBounds_toArray, List.set_cons_zero, List.set_cons_succ]
              refine Ord.take (i := 2) (d := 63) (v := ?v2r01) rfl rfl (by as_aux_lemma => kernel_rfl) (by as_aux_lemma => kernel_rfl) (by as_aux_lemma => kernel_rfl) (fun _ _ _ h => h) (by rfl) ?h2 (by assumption) ?_
              case h2 => intro w hSw; go_simp; try with_reducible rfl
              simp only [List.setIfInBounds_toArray, List.set_cons_zero, List.set_cons_succ]
              refine Ord.take (i := 3) (d := 64) (v := .slice (some ⟨rg, 64 * m, none⟩) (rsn - 64 * m) (rc - 64 * m)) rfl rfl (by as_aux_lemma => kernel_rfl) (by as_aux_lemma => kernel_rfl) (by as_aux_lemma => kernel_rfl) (fun _ _ _ h => h) (by rfl) ?h3 (by assumption) ?_
              case h3 => intro w hSw; go_simp; try with_reducible rfl
              simp only [List.setIfInBounds_toArray, List.set_cons_zero, List.set_cons_succ]
              refine wpAnyH_ready (rs := [4]) (by as_aux_lemma => kernel_rfl) (by simp) (AllReadyH.cons rfl (fun K hK => ?_) AllReadyH.nil)
              rw [if_pos (by rfl)]
              refine wp_copy_run (.tmp 61) (.tmp 64) rfl _ _ _ rfl rfl HCP.out ?_
              refine hK.out _ _ trivial (fun _ => ?_)
              clear hK K HCP
              refine wpAnyH_done (by as_aux_lemma => kernel_rfl) ?_ _
              simp only [Act.put, List.setIfInBounds_toArray]
              generalize w5.setRow wr.heap.size (arr .u8 bk) = w6 at *
              have hsv6 : w6.heap[g]? = some (.cells (arr .u32 sm.list) 31 (0, 0)) := by rw [HB6.out.block g hgq]; exact HSV.out
              have hf6 := HF6.out
              have hL6 := (HLD.out.grown HGR.out h2g).later HB6.out
              have hG6 := grown_trans HGR.out (grown_below HB6.out _)
              generalize wr.heap.size = gB at *
              go_wp2_with (first
                | (refine wpList_load_row rfl 31 _ rfl g rfl 31 (arr .u32 sm.list) (0, 0) _ hsv6 Tryd.underlying31 rfl (by rw [hsz8]; exact Tryd.size31) ?_)
                | (refine wpList_load_row rfl 32 _ rfl gB rfl 32 (arr .u8 bk) (0, 0) _ hf6 Tryd.underlying32 rfl (by rw [hsz64]; exact Tryd.size32) ?_))
              go_at_call 13
              refine (HST.out _ hL6).mono ?_
              rintro _ w7 ⟨rfl, hb7⟩
              have hv7 : w7.heap[g]? = some (.cells (arr .u32 sm.list) 31 (0, 0)) := by rw [hb7.block g (Array.getElem?_eq_some_iff.1 hsv6).1]; exact hsv6
              have HG8 := hid (grown_trans hG6 (grown_trans (grown_below hb7 _) (grown_setRow w7 g (arr .u32 sn.list))))
              have HF8 := hid (setRow_heap _ _ _ (arr .u32 sn.list) _ _ hv7)
              clear hb7 hsv6 hf6 hL6 hG6 HB6 HF6 HST
              go_wp2_with (refine wpList_store_rowTo rfl 31 _ _ rfl rfl g (arr .u32 sn.list) rfl rfl 31 _ hv7 (by rw [hsnS]; exact Tryd.size31) (by rw [hsnS]; exact hsz8) (arr_one _ _) ?_)
              clear hv7
              generalize w7.setRow g (arr .u32 sn.list) = w8 at *
              go_wp2
              exact ⟨⟨m + 1, by omega, by go_num, by rw [← Nat.add_assoc, HSTP.out]; exact HF8.out, HG8.out⟩, by simp [intOf]; omega⟩
            · obtain rfl : m = M := by omega
              have hcond : ¬ 64 * (m : Int) < (rsn : Int) := by omega
              have HDG : Hid (digest (al ++ z) = Sha.bytes (blocks (k + m) (al ++ rs) Sha.start)) := digest_blocks al z rs k m (by rw [HFN.out, HZN.out, HPDE.out]; exact HRSE.out) (by rw [HFN.out]; exact HALEN.out) (by rw [HRL.out]; omega)
              have hok := HOK.out (k + m) rs
              generalize hsm : blocks (k + m) (al ++ rs) Sha.start = sN at *
              clear hsm
              have HBY := hid (fun W : World => bytes_ref sN W hok)
              have HDL := hid (digest_length (al ++ z))
              have HTF := hid (two_flat al z)
              have hbw : Below g w1 wr := (HBEL.out.trans (HBD.out.mono (by omega))).trans (grown_bel hgr (Nat.le_refl _) (by omega))
              have hbW1 : Below w1.heap.size w1 wr := by rw [HGG.out]; exact hbw
              have HRA := hid (rd_any (own_kept HOWD.out hgr (Nat.lt_succ_self g)) HFN.out HALT.out)
              have HRB := hid (HRZ1.out.later hbW1)
              have HLw := hid (HL1.out.later hbW1)
              have HBw := hid (Bn HB1.out hbW1)
              have hgq : g < wr.heap.size := (Array.getElem?_eq_some_iff.1 hsv).1
              have hLd : ∀ w : World, Below wr.heap.size wr w → (Instr.loadAt 31 (.pointer (some ⟨g, 0, none⟩))).run Tryd.prog w = .ok (.agg (arr .u32 sN.list)) w := fun w h => load_whole (by rw [h.block _ hgq]; exact hsv) Tryd.underlying31 rfl Tryd.size31
              have HSUM := hid (fun (w : World) (h : Below wr.heap.size wr w) (c : Nat) (hc : c = w.heap.size) => sum_word (some ⟨c, 0, none⟩) 2 [al, z] _ ((HLw.out.later h).later (bel_alloc w (.cells #[.slice aa aln ca, .slice b zn capb] 35))) (Ps.two (HRA.out.later h) (HRB.out.later h) c hc) (by rw [HTF.out, List.length_append, HFN.out, HZN.out]; omega))
              rw [HTF.out] at HSUM
              have hq := eq25 (digest (al ++ z)) (digest_length _)
              have hg := guard25
              rw [← HDG.out] at HBY
              generalize digest (al ++ z) = D at *
              clear hsv hbw hbW1 hgr hok
              go_wp2_with fail
              refine wp_region_held_drew (S := fun w' => Below wr.heap.size wr w') (by as_aux_lemma => kernel_rfl) (Below.refl _ _).drew (fun hS => ?_)
              generalize wr.drew = wE at *
              refine Ord.take (i := 0) (d := 69) (v := ?v0s01) rfl rfl (by as_aux_lemma => kernel_rfl) (by as_aux_lemma => kernel_rfl) (by as_aux_lemma => kernel_rfl) (fun _ _ _ h => h) (by rfl) ?h0 (by assumption) ?_
              case h0 => intro w hSw; go_simp; try with_reducible rfl
              simp only [List.setIfInBounds_toArray, List.set_cons_zero, List.set_cons_succ]
              refine Ord.take (i := 1) (d := 70) (v := ?v1s01) rfl rfl (by as_aux_lemma => kernel_rfl) (by as_aux_lemma => kernel_rfl) (by as_aux_lemma => kernel_rfl) (fun _ _ _ h => h) (by rfl) ?h1 (by assumption) ?_
              case h1 => intro w hSw; go_simp; try with_reducible rfl
              simp only [List.setIfInBounds_toArray, List.set_cons_zero, List.set_cons_succ]
              refine Ord.take (i := 4) (d := 73) (v := .agg (arr .u32 sN.list)) rfl rfl (by as_aux_lemma => kernel_rfl) (by as_aux_lemma => kernel_rfl) (by as_aux_lemma => kernel_rfl) (fun _ _ _ h => h) (by rfl) ?h4 (by assumption) ?_
              case h4 => exact fun w hSw => run_load_op (p := .pointer (some ⟨g, 0, none⟩)) rfl rfl (hLd w hSw)
              simp only [List.setIfInBounds_toArray, List.set_cons_zero, List.set_cons_succ]
              refine wpAnyH_ready (rs := [2]) (by as_aux_lemma => kernel_rfl) (by simp) (AllReadyH.cons rfl (fun K hK => ?_) AllReadyH.nil)
              go_simp
              have hSA := Bn hS (bel_alloc wE (.cells #[.slice aa aln ca, .slice b zn capb] 35))
              have HSM := hid (HSUM.out wE hS wE.heap.size rfl)
              refine hK.out _ _ hSA (fun _ => ?_)
              clear hK K HSUM
              generalize wE.alloc (.cells #[.slice aa aln ca, .slice b zn capb] 35) = wF at *
              refine wpAnyH_ready (rs := [3]) (by as_aux_lemma => kernel_rfl) (by simp) (AllReadyH.cons rfl (fun K hK => ?_) AllReadyH.nil)
              go_simp
              refine HSM.out.mono ?_
              rintro _ x3 ⟨rfl, hb3⟩
              have hS3 := Bn hSA hb3
              refine hK.out _ _ hS3 (fun _ => ?_)
              clear hK K hb3 HSM
              refine wpAnyH_ready (rs := [5]) (by as_aux_lemma => kernel_rfl) (by simp) (AllReadyH.cons rfl (fun K hK => ?_) AllReadyH.nil)
              go_simp
              refine (HBY.out _).mono ?_
              rintro _ x5 ⟨rfl, hb5⟩
              have hS5 := Bn hS3 hb5
              refine hK.out _ _ hS5 (fun _ => ?_)
              clear hK K hb5 HBY
              refine Ord.take (i := 6) (d := 75) (v := .bool true) rfl rfl (by as_aux_lemma => kernel_rfl) (by as_aux_lemma => kernel_rfl) (by as_aux_lemma => kernel_rfl) (fun _ _ _ h => h) (by rfl) ?h6 (by assumption) ?_
              case h6 => exact fun w _ => run_eql_op rfl rfl rfl hg (hq w)
              simp only [List.setIfInBounds_toArray, List.set_cons_zero, List.set_cons_succ]
              refine Ord.take (i := 7) (d := 76) (v := ?v7s01) rfl rfl (by as_aux_lemma => kernel_rfl) (by as_aux_lemma => kernel_rfl) (by as_aux_lemma => kernel_rfl) (fun _ _ _ h => h) (by rfl) ?h7 (by assumption) ?_
              case h7 => intro w hSw; go_simp; try with_reducible rfl
              simp only [List.setIfInBounds_toArray, List.set_cons_zero, List.set_cons_succ]
              refine wpAnyH_ready (rs := [8]) (by as_aux_lemma => kernel_rfl) (by simp) (AllReadyH.cons rfl (fun K hK => ?_) AllReadyH.nil)
              go_simp
              refine (alive_any _ (HLw.out.later hS5)).mono ?_
              rintro _ x8 ⟨rfl, hb8⟩
              have hS8 := Bn hS5 hb8
              refine hK.out _ _ hS8 (fun _ => ?_)
              clear hK K hb8
              refine Ord.take (i := 9) (d := 78) (v := ?v9s01) rfl rfl (by as_aux_lemma => kernel_rfl) (by as_aux_lemma => kernel_rfl) (by as_aux_lemma => kernel_rfl) (fun _ _ _ h => h) (by rfl) ?h9 (by assumption) ?_
              case h9 => intro w hSw; go_simp; try with_reducible rfl
              simp only [List.setIfInBounds_toArray, List.set_cons_zero, List.set_cons_succ]
              refine Ord.take (i := 10) (d := 4) (v := ?v10s01) rfl rfl (by as_aux_lemma => kernel_rfl) (by as_aux_lemma => kernel_rfl) (by as_aux_lemma => kernel_rfl) (fun _ _ _ h => h) (by rfl) ?h10 (by assumption) ?_
              case h10 => intro w hSw; go_simp; try with_reducible rfl
              simp only [List.setIfInBounds_toArray, List.set_cons_zero, List.set_cons_succ]
              refine wpAnyH_done (by as_aux_lemma => kernel_rfl) ?_ _
              have HE := hid (Bn HBw.out hS8)
              clear hS hSA hS3 hS5 hS8 hq hLd
              go_wp2
              go_ret
              exact ⟨rfl, HE.out⟩
    · have h8' : ¬ (8 : Int) < (bl.length : Int) := by omega
      have h6' : ¬ (600 : Int) < (ys.length : Int) := by omega
      clear hrb hr
      generalize hn : bl.length = n at *
      have HN := hid hn
      clear hn
      generalize ys = z at *
      generalize hzn : z.length = zn at *
      have HZN := hid hzn
      have HRZ := HRB
      clear hzn HRB
      have hzn6 : zn ≤ 600 := by omega
      go_enter Tryd.func8, Tryd.ntmps8
      go_wp2_with fail
      go_wp2_with fail
      go_at_call 17
      refine (start_word W HL.out).mono ?_
      rintro _ w1 ⟨rfl, hb1⟩
      obtain ⟨q2, f2, z2⟩ := put_state w1 Sha.start.list w1.heap.size rfl
      have hn1 := heap_new w1 (.cells (arr .u32 z8) 31)
      have HBS1 := hid (HBS.out.later hb1)
      have HRZ1 := hid (HRZ.out.later hb1)
      have HL1 := hid (HL.out.later hb1)
      have HB1 := hid hb1
      have hlw2 := HL1.out.two
      have hw01 := hb1.size
      clear hb1 HBS HRZ HL
      go_wp2_with (first
        | (refine wpList_alloc_at rfl 31 rfl (some 5) rfl (arr .u32 z8) Tryd.zero31 w1.heap.size rfl ?_)
        | (refine wpList_store_rowTo rfl 31 _ _ rfl rfl w1.heap.size (arr .u32 Sha.start.list) rfl rfl 31 _ hn1 Tryd.size31 rfl (arr_one _ _) ?_))
      generalize (w1.alloc (.cells (arr .u32 z8) 31)).setRow w1.heap.size (arr .u32 Sha.start.list) = w2 at *
      clear hn1
      have HQ2 := hid q2
      have HF2 := hid f2
      clear q2 f2
      generalize hgg : w1.heap.size = g at *
      have HGG := hid hgg
      clear hgg
      go_loopw [6, 7] (fun v i wr => ∃ k : Nat, k ≤ n ∧ i = .int .i64 k ∧ wr.ownsRow (g + 1) 5 1 v (bl.take k).flatten.length (V (bl.take k).flatten) ∧ wr.heap[g]? = some (.cells (arr .u32 (blocks k (bl.take k).flatten Sha.start).list) 31 (0, 0)) ∧ Below g w1 wr) (fun _ i _ => 8 - (intOf i).toNat)
      case atStart => exact ⟨0, by omega, rfl, World.ownsRow_nil _ _ _ _, HF2.out, HQ2.out⟩
      case round =>
        obtain ⟨k, hk, rfl, hown, hsv, hbel⟩ := hrel
        have hgw : g < wr.heap.size := (Array.getElem?_eq_some_iff.1 hsv).1
        have hB1 : Below w1.heap.size w1 wr := by rw [HGG.out]; exact hbel
        have HBEL := hid hbel
        have HB1r := hid hB1
        clear hB1 hbel HF2 HQ2
        by_cases hlt : k < n
        · have hkn : (k : Int) < (n : Int) := by omega
          have hkm : k < bl.length := by rw [HN.out]; exact hlt
          obtain ⟨bb, off, ha1, hbb, hc⟩ := HBS1.out.cells (by omega)
          subst ha1
          have hcW := HBS1.out.later HB1r.out
          obtain ⟨b2, o2, ha2, hbbr, hcr⟩ := hcW.cells (by omega)
          injection ha2 with ha2
          injection ha2 with h21 h22
          subst h21 h22
          have hy64 := HBS1.out.len k hkm
          have hylt := HBS1.out.lo k hkm
          have hcy := hcr k hkm
          have hbg : bb < g := by rw [HGG.out] at hbb; exact hbb
          have HF := hid (flat_take bl k hkm)
          have HS1 := hid (step_one bl HBS1.out.len k hkm)
          have HFL := hid (flat_len bl HBS1.out.len k (by omega))
          clear hc hcr hcW hbb hbbr
          generalize bl.getD k [] = y at *
          have hok := blocks_ok k (bl.take k).flatten Sha.start start_ok
          generalize hfl : (bl.take k).flatten = fl at *
          generalize hsb : blocks k fl Sha.start = sb at *
          have hfl64 : fl.length ≤ 512 := by have := HFL.out; omega
          have HFE := hid hfl
          clear hfl hsb
          have HLB := hid (fun (w : World) (h : wr.grownBy w (some g)) => load_block (w := w) (b := bb) (off := off + k * 64) hy64 (fun i hi => by rw [World.cell?_of_block (w := wr) (h.block bb (by omega) (by intro h; injection h with h; omega)), Nat.mul_comm k 64, Nat.add_assoc]; exact hcy i hi))
          have HST := hid (fun (w : World) (h : Laid w) => step_word sb y w hok hy64 hylt h)
          have HLR := hid (HL1.out.later HB1r.out)
          generalize Sha.step sb y = sn at *
          have hsnS : (arr .u32 sn.list).size = 8 := arr_size _ _
          have hsnI : (Tryd.prog.info? 31).map (·.size) = some (arr .u32 sn.list).size := by rw [hsnS]; exact Tryd.size31
          have hsnE : (arr .u32 sb.list).size = (arr .u32 sn.list).size := (arr_size _ _).trans hsnS.symm
          have HOW := hid hown
          have HSV := hid hsv
          have HCY := hid hcy
          have HYL := hid hylt
          clear hown hsv hcy hylt hok
          go_wp2_with fail
          refine wp_region_held_drew (S := fun w' => wr.grownBy w' (some g)) (by as_aux_lemma => kernel_rfl) (grown_drewN (grown_refl wr _) 1) (fun hS => ?_)
          have hSV : Hid (wr.drew.heap[g]? = some (.cells (arr .u32 sb.list) 31 (0, 0))) := HSV.out
          have hLD : Hid (Laid wr.drew) := HLR.out.drewN 1
          generalize wr.drew = wD at *
          refine Ord.take (i := 1) (d := 29) (v := ?v1p00) rfl rfl (by as_aux_lemma => kernel_rfl) (by as_aux_lemma => kernel_rfl) (by as_aux_lemma => kernel_rfl) (fun _ _ _ h => h) (by rfl) ?h1 (by assumption) ?_
          case h1 => intro w hSw; go_simp; try with_reducible rfl
          simp only [List.setIfInBounds_toArray, List.set_cons_zero, List.set_cons_succ]
          refine Ord.take (i := 2) (d := 30) (v := ?v2p00) rfl rfl (by as_aux_lemma => kernel_rfl) (by as_aux_lemma => kernel_rfl) (by as_aux_lemma => kernel_rfl) (fun _ _ _ h => h) (by rfl) ?h2 (by assumption) ?_
          case h2 => intro w hSw; go_simp; try with_reducible rfl
          simp only [List.setIfInBounds_toArray, List.set_cons_zero, List.set_cons_succ]
          refine Ord.take (i := 3) (d := 31) (v := .pointer (some ⟨bb, off + k * 64, none⟩)) rfl rfl (by as_aux_lemma => kernel_rfl) (by as_aux_lemma => kernel_rfl) (by as_aux_lemma => kernel_rfl) (fun _ _ _ h => h) (by rfl) ?h3 (by assumption) ?_
          case h3 => intro w hSw; go_simp; try with_reducible rfl
          simp only [List.setIfInBounds_toArray, List.set_cons_zero, List.set_cons_succ]
          refine Ord.take (i := 4) (d := 32) (v := .agg (arr .u8 y)) rfl rfl (by as_aux_lemma => kernel_rfl) (by as_aux_lemma => kernel_rfl) (by as_aux_lemma => kernel_rfl) (fun _ _ _ h => h) (by rfl) ?h4 (by assumption) ?_
          case h4 => exact fun w hSw => run_load_op (p := .pointer (some ⟨bb, off + k * 64, none⟩)) rfl rfl (HLB.out w hSw)
          simp only [List.setIfInBounds_toArray, List.set_cons_zero, List.set_cons_succ]
          refine wpAnyH_ready (rs := [0]) (by as_aux_lemma => kernel_rfl) (by simp) (AllReadyH.cons rfl (fun K hK => ?_) AllReadyH.nil)
          rw [if_pos (by rfl)]
          refine wp_load_run 31 (.tmp 5) rfl (.pointer (some ⟨g, 0, none⟩)) (.agg (arr .u32 sb.list)) rfl (load_whole hSV.out Tryd.underlying31 rfl Tryd.size31) ?_
          refine hK.out _ _ hS (fun _ => ?_)
          clear hK K
          simp only [Act.put, List.setIfInBounds_toArray]
          refine wpAnyH_ready (rs := [5]) (by as_aux_lemma => kernel_rfl) (by simp) (AllReadyH.cons rfl (fun K hK => ?_) AllReadyH.nil)
          go_simp
          refine (HST.out _ hLD.out).mono ?_
          rintro _ w3 ⟨rfl, hb3⟩
          have hS3 := grown_trans hS (grown_below hb3 _)
          have hv3 : w3.heap[g]? = some (.cells (arr .u32 sb.list) 31 (0, 0)) := by rw [hb3.block g (Array.getElem?_eq_some_iff.1 hSV.out).1]; exact hSV.out
          refine hK.out _ _ hS3 (fun _ => ?_)
          clear hK K hb3
          refine wpAnyH_ready (rs := [6]) (by as_aux_lemma => kernel_rfl) (by simp) (AllReadyH.cons rfl (fun K hK => ?_) AllReadyH.nil)
          rw [if_pos (by rfl)]
          refine wp_store_row 31 (.tmp 5) (.tmp 33) rfl g (arr .u32 sn.list) rfl rfl 31 _ hv3 hsnI hsnE (arr_one _ _) ?_
          have hS4 := grown_trans hS3 (grown_setRow w3 g (arr .u32 sn.list))
          have f4 := setRow_heap _ _ _ (arr .u32 sn.list) _ _ hv3
          refine hK.out _ _ hS4 (fun _ => ?_)
          clear hK K hv3 hS3 hSV hLD hS
          refine wpAnyH_done (by as_aux_lemma => kernel_rfl) ?_ _
          generalize w3.setRow g (arr .u32 sn.list) = w4 at *
          simp only [Act.put]
          have hown4 := own_kept HOW.out hS4 (Nat.lt_succ_self g)
          have hb4 : Below g w1 w4 := HBEL.out.trans (grown_bel hS4 (Nat.le_refl _) (by omega))
          have hz4 : g < w4.heap.size := Nat.lt_of_lt_of_le hgw hS4.size
          have hrd4 := rd_part (w := w4) (b := bb) (off := off + k * 64) hy64 HYL.out (by omega) (fun i hi => by rw [World.cell?_of_block (w := wr) (hS4.block bb (by omega) (by intro h; injection h with h; omega)), Nat.mul_comm k 64, Nat.add_assoc]; exact HCY.out i hi)
          have HF4 := hid f4
          have hsl := slice_whole bb (off + k * 64)
          clear hS4 f4 HOW HSV HLB HST HCY
          have hbd4 : fl.length + y.length ≤ 1000000 := by omega
          have hgz4 : g + 1 ≤ w4.heap.size := hz4
          go_wp2_with (at_builtin; refine app_len _ rfl _ _ rfl (g + 1) _ fl rfl hown4 (some ⟨bb, off + k * 64, none⟩) 64 y 64 rfl hy64 hrd4 hbd4 hgz4 ?_)
          intro v5 w5 hown5 hgr5
          have hb5 : Below g w1 w5 := hb4.grown hgr5 (by omega) (fun j hj => Nat.le_trans (Nat.le_succ g) (hown4.lt j hj).1)
          have f5 : w5.heap[g]? = _ := (hgr5.block g hz4 (fun h => absurd (hown4.lt g h.symm).1 (by omega))).trans HF4.out
          have R1 : Hid (w5.ownsRow (g + 1) 5 1 v5 (bl.take (k + 1)).flatten.length (V (bl.take (k + 1)).flatten)) := by show World.ownsRow _ _ _ _ _ _ _; rw [HF.out]; first | exact hown5 | (rw [List.length_append, hy64]; exact hown5)
          have R2 : Hid (w5.heap[g]? = some (.cells (arr .u32 (blocks (k + 1) (bl.take (k + 1)).flatten Sha.start).list) 31 (0, 0))) := by show _ = _; rw [HS1.out]; exact f5
          have R3 := hid hb5
          clear hown4 hown5 hgr5 hb4 hb5 f5 hrd4 HF4
          go_wp2
          exact ⟨⟨k + 1, by omega, by go_num, R1.out, R2.out, R3.out⟩, by simp [intOf]; omega⟩
        · obtain rfl : k = n := by omega
          have hkn : ¬ (k : Int) < (k : Int) := by omega
          have HALEN := hid (flat_len bl HBS1.out.len k (by have := HN.out; omega))
          have HALT := hid (bs_lt HBS1.out k)
          have HLR := hid (HL1.out.later HB1r.out)
          have HSTW := hid (step_two (bl.take k).flatten)
          generalize (bl.take k).flatten = al at *
          have HOK := hid (fun (m : Nat) (rs : List Nat) => blocks_ok m (al ++ rs) Sha.start start_ok)
          have HAP := hid (fun (rs : List Nat) => blocks_app k al rs Sha.start (by rw [HALEN.out]; exact Nat.le_refl _))
          generalize hs0 : blocks k al Sha.start = s0 at *
          have HS0 := hid hs0
          clear hs0
          obtain ⟨aa, ca, rfl⟩ := own_slice hown
          have haln : al.length ≤ 512 := by rw [HALEN.out]; omega
          generalize hfn : al.length = aln at *
          have HFN := hid hfn
          clear hfn
          have bA := bel_alloc wr (.cells #[] 5)
          have hoA := World.ownsRow_lit (base := wr.heap.size) (e := 5) (size := 1) wr #[] 0 (Nat.le_refl _) (by unfold maxLen; omega) rfl
          have hzA : wr.heap.size ≤ (wr.alloc (.cells #[] 5)).heap.size := bA.size
          have hrdA : Rd (wr.alloc (.cells #[] 5)) (.slice b z.length capb) b capb z := by rw [HZN.out]; exact HRZ1.out.later (Bn HB1r.out bA)
          have hbdA : ([] : List Nat).length + z.length ≤ 1000000 := by rw [HZN.out]; simp; omega
          have HOWN := hid hown
          have HSV := hid hsv
          clear hown hsv
          go_wp2_with (at_builtin; refine app_len _ rfl _ _ rfl wr.heap.size _ [] rfl hoA b capb z zn rfl HZN.out hrdA hbdA hzA ?_)
          intro vB wB hownB hgrB
          have hownB2 : wB.ownsRow wr.heap.size 5 1 vB z.length (V z) := by first | exact hownB | simpa using hownB | (rw [HZN.out]; simpa using hownB)
          have hbB : Below wr.heap.size wr wB := bA.grown hgrB hzA (fun j hj => (hoA.lt j hj).1)
          have hzB := hbB.size
          have HPD := hid (fun W : World => pad_word (aln + zn) W (by omega))
          simp only [Int.natCast_add] at HPD
          have hpl := pad_length (aln + zn)
          have HPL := hid (pad_lt (aln + zn))
          have HZLT := hid HRZ1.out.hi
          generalize hpd : pad (aln + zn) = pd at *
          have HPDE := hid hpd
          clear hpd hownB hgrB bA hoA hzA hrdA hbdA
          generalize wr.alloc (.cells #[] 5) = wA at *
          go_wp2_with fail
          refine (HPD.out _).mono ?_
          rintro _ wC ⟨pv, rfl, hpo, hpb⟩
          obtain ⟨pg, pc, rfl, hpg, hprd⟩ := rd_own hpo (by omega) HPL.out
          have hownC := own_later hownB2 hpb
          have hbC : Below wr.heap.size wr wC := hbB.trans (hpb.mono hzB)
          have hzC := hbC.size
          have hbdC : z.length + pd.length ≤ 1000000 := by rw [HZN.out]; omega
          clear hpo hownB2 HPD hpg
          go_wp2_with (at_builtin; refine app_any _ rfl _ _ rfl wr.heap.size _ z rfl hownC _ pc pd rfl hprd hbdC hzC ?_)
          intro vD wD hownD hgrD
          have hownD2 : wD.ownsRow wr.heap.size 5 1 vD (z ++ pd).length (V (z ++ pd)) := by first | exact hownD | (rw [List.length_append]; exact hownD) | (rw [List.length_append, HZN.out]; exact hownD)
          have hbD : Below wr.heap.size wr wD := hbC.grown hgrD hzC (fun j hj => (hownC.lt j hj).1)
          have HRSL : Hid ((z ++ pd).length = zn + pd.length) := by show _ = _; rw [List.length_append, HZN.out]
          have HRLT := hid (getD_app z pd HZLT.out HPL.out)
          generalize hrs : z ++ pd = rs at *
          have HRSE := hid hrs
          clear hrs hownD hgrD hownC hprd hpb hbB hbC hbdC
          obtain ⟨rg, rc, rfl, hrg, hrrd⟩ := rd_own hownD2 (by rw [HRSL.out]; omega) HRLT.out
          obtain ⟨M, hMM⟩ : ∃ M, rs.length = 64 * M := ⟨rs.length / 64, by have := HRSL.out; have := HALEN.out; have := HFN.out; omega⟩
          have hM20 : M ≤ 20 := by have := HRSL.out; omega
          have HRRD := hid hrrd
          have HSVD : Hid (wD.heap[g]? = some (.cells (arr .u32 s0.list) 31 (0, 0))) := by show _ = _; rw [hbD.block g hgw]; exact HSV.out
          have HOWD := hid (own_later HOWN.out hbD)
          have HBD := hid hbD
          have hzD := hbD.size
          clear hownD2 hrrd hbD HOWN HSV
          generalize hrl : rs.length = rsn at *
          have HRL := hid hrl
          clear hrl
          have hrem : (rsn : Int) % 64 = 0 := by omega
          have hR1 : 64 * M ≤ rsn := by omega
          have hR2 : rsn ≤ 64 * M := by omega
          clear hMM
          have hrgg : g < rg := by omega
          have HRX : Hid (Rx g wD (.slice (some ⟨rg, 0, none⟩) rsn rc) (some ⟨rg, 0, none⟩) rc rs) := ⟨HRRD.out, fun _ ad had => by injection had with had; subst had; show rg ≠ g; omega⟩
          have hrc : rsn ≤ rc := by have := HRRD.out.room; have := HRL.out; omega
          have HLD := hid (HLR.out.later HBD.out)
          have hgD : g < wD.heap.size := by omega
          have h2g : 2 ≤ g := by have := HL1.out.two; have := HGG.out; omega
          go_wp2_with fail
          clear hrem
          go_loopw [9] (fun i wq => ∃ m : Nat, m ≤ M ∧ i = .int .i64 (64 * (m : Int)) ∧ wq.heap[g]? = some (.cells (arr .u32 (blocks (k + m) (al ++ rs) Sha.start).list) 31 (0, 0)) ∧ wD.grownBy wq (some g)) (fun i _ => 64 * M + 64 - (intOf i).toNat)
          case atStart => exact ⟨0, by omega, rfl, by rw [Nat.add_zero, HAP.out]; exact HSVD.out, grown_refl _ _⟩
          case round =>
            obtain ⟨m, hm, rfl, hsv, hgr⟩ := hrel
            by_cases hmM : m < M
            · have hcond : 64 * (m : Int) < (rsn : Int) := by omega
              have hRQ := (HRX.out.kept hgr).rd
              obtain ⟨r2, o2, hae, hrgw, hac⟩ := hRQ.cells (by rw [HRL.out]; omega)
              injection hae with hae
              injection hae with h21 h22
              subst h21 h22
              have HSTP := hid (HSTW.out rs k m HALEN.out)
              have hb64 : ((rs.drop (64 * m)).take 64).length = 64 := by rw [List.length_take, List.length_drop, HRL.out]; omega
              have HBLT := hid (blk_lt rs HRLT.out (64 * m))
              have hcB : ∀ i, i < 64 → wr.cell? ⟨rg, 64 * m + i, none⟩ = some (.int .u8 ((((rs.drop (64 * m)).take 64).getD i 0 : Nat) : Int)) := fun i hi => by rw [blk_get rs (64 * m) i hi]; have := hac (64 * m + i) (by rw [HRL.out]; omega); rw [Nat.zero_add] at this; exact this
              have hok := HOK.out (k + m) rs
              generalize (rs.drop (64 * m)).take 64 = bk at *
              generalize hsm : blocks (k + m) (al ++ rs) Sha.start = sm at *
              clear hsm hac hRQ
              have HST := hid (fun (w : World) (h : Laid w) => step_word sm bk w hok hb64 HBLT.out h)
              generalize Sha.step sm bk = sn at *
              have hsnS : (arr .u32 sn.list).size = 8 := arr_size _ _
              have hsz8 : (arr .u32 sm.list).size = 8 := arr_size _ _
              have hsz64 : (arr .u8 bk).size = 64 := (arr_size _ _).trans hb64
              have hgB := heap_new wr (.cells (arr .u8 z64) 32)
              have b5 := bel_alloc wr (.cells (arr .u8 z64) 32)
              have hgq : g < wr.heap.size := (Array.getElem?_eq_some_iff.1 hsv).1
              have z5 : (wr.alloc (.cells (arr .u8 z64) 32)).heap.size = wr.heap.size + 1 := by simp
              have hs3 := slice_at rg rsn rc m (by omega) hrc
              have hs1 := slice_whole wr.heap.size 0
              have HCP := hid (fun ty => copy_block (wr.alloc (.cells (arr .u8 z64) 32)).drew wr.heap.size rg (64 * m) (rsn - 64 * m) (rc - 64 * m) bk hgB hb64 (by omega) (fun i hi => (b5.drew.cell (p := ⟨rg, 64 * m + i, none⟩) hrgw).trans (hcB i hi)) ty)
              have b6 : Below wr.heap.size wr ((wr.alloc (.cells (arr .u8 z64) 32)).drew.setRow wr.heap.size (arr .u8 bk)) := below_setRow b5.drew (Nat.le_refl _) _
              have f6 : ((wr.alloc (.cells (arr .u8 z64) 32)).drew.setRow wr.heap.size (arr .u8 bk)).heap[wr.heap.size]? = some (.cells (arr .u8 bk) 32 (0, 0)) := setRow_heap _ _ _ _ _ _ hgB
              have HB6 := hid b6
              have HF6 := hid f6
              have HSV := hid hsv
              have HGR := hid hgr
              clear b5 b6 f6 hsv hgr hok z5
              go_wp2_with (refine wpList_alloc_at rfl 32 rfl (some 10) rfl (arr .u8 z64) Tryd.zero32 wr.heap.size rfl ?_)
              clear hgB
              refine wp_region_held_drew (S := fun _ => True) (by as_aux_lemma => kernel_rfl) trivial (fun hS => ?_)
              generalize (wr.alloc (.cells (arr .u8 z64) 32)).drew = w5 at *
              refine Ord.take (i := 0) (d := 61) (v := .slice (some ⟨wr.heap.size, 0, none⟩) 64 64) rfl rfl (by as_aux_lemma => kernel_rfl) (by as_aux_lemma => kernel_rfl) (by as_aux_lemma => kernel_rfl) (fun _ _ _ h => h) (by rfl) ?h0 (by assumption) ?_
              case h0 => intro w hSw; go_simp; try with_reducible rfl
              simp only [List.setIfInBounds_toArray, List.set_cons_zero, List.set_cons_succ]
              refine Ord.take (i := 1) (d := 62) (v := ?v1r00) rfl rfl (by as_aux_lemma => kernel_rfl) (by as_aux_lemma => kernel_rfl) (by as_aux_lemma => kernel_rfl) (fun _ _ _ h => h) (by rfl) ?h1 (by assumption) ?_
              case h1 => intro w hSw; go_simp; try with_reducible rfl
              simp only [List.setIfInBounds_toArray, List.set_cons_zero, List.set_cons_succ]
              refine Ord.take (i := 2) (d := 63) (v := ?v2r00) rfl rfl (by as_aux_lemma => kernel_rfl) (by as_aux_lemma => kernel_rfl) (by as_aux_lemma => kernel_rfl) (fun _ _ _ h => h) (by rfl) ?h2 (by assumption) ?_
              case h2 => intro w hSw; go_simp; try with_reducible rfl
              simp only [List.setIfInBounds_toArray, List.set_cons_zero, List.set_cons_succ]
              refine Ord.take (i := 3) (d := 64) (v := .slice (some ⟨rg, 64 * m, none⟩) (rsn - 64 * m) (rc - 64 * m)) rfl rfl (by as_aux_lemma => kernel_rfl) (by as_aux_lemma => kernel_rfl) (by as_aux_lemma => kernel_rfl) (fun _ _ _ h => h) (by rfl) ?h3 (by assumption) ?_
              case h3 => intro w hSw; go_simp; try with_reducible rfl
              simp only [List.setIfInBounds_toArray, List.set_cons_zero, List.set_cons_succ]
              refine wpAnyH_ready (rs := [4]) (by as_aux_lemma => kernel_rfl) (by simp) (AllReadyH.cons rfl (fun K hK => ?_) AllReadyH.nil)
              rw [if_pos (by rfl)]
              refine wp_copy_run (.tmp 61) (.tmp 64) rfl _ _ _ rfl rfl HCP.out ?_
              refine hK.out _ _ trivial (fun _ => ?_)
              clear hK K HCP
              refine wpAnyH_done (by as_aux_lemma => kernel_rfl) ?_ _
              simp only [Act.put, List.setIfInBounds_toArray]
              generalize w5.setRow wr.heap.size (arr .u8 bk) = w6 at *
              have hsv6 : w6.heap[g]? = some (.cells (arr .u32 sm.list) 31 (0, 0)) := by rw [HB6.out.block g hgq]; exact HSV.out
              have hf6 := HF6.out
              have hL6 := (HLD.out.grown HGR.out h2g).later HB6.out
              have hG6 := grown_trans HGR.out (grown_below HB6.out _)
              generalize wr.heap.size = gB at *
              go_wp2_with (first
                | (refine wpList_load_row rfl 31 _ rfl g rfl 31 (arr .u32 sm.list) (0, 0) _ hsv6 Tryd.underlying31 rfl (by rw [hsz8]; exact Tryd.size31) ?_)
                | (refine wpList_load_row rfl 32 _ rfl gB rfl 32 (arr .u8 bk) (0, 0) _ hf6 Tryd.underlying32 rfl (by rw [hsz64]; exact Tryd.size32) ?_))
              go_at_call 13
              refine (HST.out _ hL6).mono ?_
              rintro _ w7 ⟨rfl, hb7⟩
              have hv7 : w7.heap[g]? = some (.cells (arr .u32 sm.list) 31 (0, 0)) := by rw [hb7.block g (Array.getElem?_eq_some_iff.1 hsv6).1]; exact hsv6
              have HG8 := hid (grown_trans hG6 (grown_trans (grown_below hb7 _) (grown_setRow w7 g (arr .u32 sn.list))))
              have HF8 := hid (setRow_heap _ _ _ (arr .u32 sn.list) _ _ hv7)
              clear hb7 hsv6 hf6 hL6 hG6 HB6 HF6 HST
              go_wp2_with (refine wpList_store_rowTo rfl 31 _ _ rfl rfl g (arr .u32 sn.list) rfl rfl 31 _ hv7 (by rw [hsnS]; exact Tryd.size31) (by rw [hsnS]; exact hsz8) (arr_one _ _) ?_)
              clear hv7
              generalize w7.setRow g (arr .u32 sn.list) = w8 at *
              go_wp2
              exact ⟨⟨m + 1, by omega, by go_num, by rw [← Nat.add_assoc, HSTP.out]; exact HF8.out, HG8.out⟩, by simp [intOf]; omega⟩
            · obtain rfl : m = M := by omega
              have hcond : ¬ 64 * (m : Int) < (rsn : Int) := by omega
              have HDG : Hid (digest (al ++ z) = Sha.bytes (blocks (k + m) (al ++ rs) Sha.start)) := digest_blocks al z rs k m (by rw [HFN.out, HZN.out, HPDE.out]; exact HRSE.out) (by rw [HFN.out]; exact HALEN.out) (by rw [HRL.out]; omega)
              have hok := HOK.out (k + m) rs
              generalize hsm : blocks (k + m) (al ++ rs) Sha.start = sN at *
              clear hsm
              have HBY := hid (fun W : World => bytes_ref sN W hok)
              have HDL := hid (digest_length (al ++ z))
              have HTF := hid (two_flat al z)
              have hbw : Below g w1 wr := (HBEL.out.trans (HBD.out.mono (by omega))).trans (grown_bel hgr (Nat.le_refl _) (by omega))
              have hbW1 : Below w1.heap.size w1 wr := by rw [HGG.out]; exact hbw
              have HRA := hid (rd_any (own_kept HOWD.out hgr (Nat.lt_succ_self g)) HFN.out HALT.out)
              have HRB := hid (HRZ1.out.later hbW1)
              have HLw := hid (HL1.out.later hbW1)
              have HBw := hid (Bn HB1.out hbW1)
              have hgq : g < wr.heap.size := (Array.getElem?_eq_some_iff.1 hsv).1
              have hLd : ∀ w : World, Below wr.heap.size wr w → (Instr.loadAt 31 (.pointer (some ⟨g, 0, none⟩))).run Tryd.prog w = .ok (.agg (arr .u32 sN.list)) w := fun w h => load_whole (by rw [h.block _ hgq]; exact hsv) Tryd.underlying31 rfl Tryd.size31
              have HSUM := hid (fun (w : World) (h : Below wr.heap.size wr w) (c : Nat) (hc : c = w.heap.size) => sum_word (some ⟨c, 0, none⟩) 2 [al, z] _ ((HLw.out.later h).later (bel_alloc w (.cells #[.slice aa aln ca, .slice b zn capb] 35))) (Ps.two (HRA.out.later h) (HRB.out.later h) c hc) (by rw [HTF.out, List.length_append, HFN.out, HZN.out]; omega))
              rw [HTF.out] at HSUM
              have hq := eq25 (digest (al ++ z)) (digest_length _)
              have hg := guard25
              rw [← HDG.out] at HBY
              generalize digest (al ++ z) = D at *
              clear hsv hbw hbW1 hgr hok
              go_wp2_with fail
              refine wp_region_held_drew (S := fun w' => Below wr.heap.size wr w') (by as_aux_lemma => kernel_rfl) (Below.refl _ _).drew (fun hS => ?_)
              generalize wr.drew = wE at *
              refine Ord.take (i := 0) (d := 69) (v := ?v0s00) rfl rfl (by as_aux_lemma => kernel_rfl) (by as_aux_lemma => kernel_rfl) (by as_aux_lemma => kernel_rfl) (fun _ _ _ h => h) (by rfl) ?h0 (by assumption) ?_
              case h0 => intro w hSw; go_simp; try with_reducible rfl
              simp only [List.setIfInBounds_toArray, List.set_cons_zero, List.set_cons_succ]
              refine Ord.take (i := 1) (d := 70) (v := ?v1s00) rfl rfl (by as_aux_lemma => kernel_rfl) (by as_aux_lemma => kernel_rfl) (by as_aux_lemma => kernel_rfl) (fun _ _ _ h => h) (by rfl) ?h1 (by assumption) ?_
              case h1 => intro w hSw; go_simp; try with_reducible rfl
              simp only [List.setIfInBounds_toArray, List.set_cons_zero, List.set_cons_succ]
              refine Ord.take (i := 4) (d := 73) (v := .agg (arr .u32 sN.list)) rfl rfl (by as_aux_lemma => kernel_rfl) (by as_aux_lemma => kernel_rfl) (by as_aux_lemma => kernel_rfl) (fun _ _ _ h => h) (by rfl) ?h4 (by assumption) ?_
              case h4 => exact fun w hSw => run_load_op (p := .pointer (some ⟨g, 0, none⟩)) rfl rfl (hLd w hSw)
              simp only [List.setIfInBounds_toArray, List.set_cons_zero, List.set_cons_succ]
              refine wpAnyH_ready (rs := [2]) (by as_aux_lemma => kernel_rfl) (by simp) (AllReadyH.cons rfl (fun K hK => ?_) AllReadyH.nil)
              go_simp
              have hSA := Bn hS (bel_alloc wE (.cells #[.slice aa aln ca, .slice b zn capb] 35))
              have HSM := hid (HSUM.out wE hS wE.heap.size rfl)
              refine hK.out _ _ hSA (fun _ => ?_)
              clear hK K HSUM
              generalize wE.alloc (.cells #[.slice aa aln ca, .slice b zn capb] 35) = wF at *
              refine wpAnyH_ready (rs := [3]) (by as_aux_lemma => kernel_rfl) (by simp) (AllReadyH.cons rfl (fun K hK => ?_) AllReadyH.nil)
              go_simp
              refine HSM.out.mono ?_
              rintro _ x3 ⟨rfl, hb3⟩
              have hS3 := Bn hSA hb3
              refine hK.out _ _ hS3 (fun _ => ?_)
              clear hK K hb3 HSM
              refine wpAnyH_ready (rs := [5]) (by as_aux_lemma => kernel_rfl) (by simp) (AllReadyH.cons rfl (fun K hK => ?_) AllReadyH.nil)
              go_simp
              refine (HBY.out _).mono ?_
              rintro _ x5 ⟨rfl, hb5⟩
              have hS5 := Bn hS3 hb5
              refine hK.out _ _ hS5 (fun _ => ?_)
              clear hK K hb5 HBY
              refine Ord.take (i := 6) (d := 75) (v := .bool true) rfl rfl (by as_aux_lemma => kernel_rfl) (by as_aux_lemma => kernel_rfl) (by as_aux_lemma => kernel_rfl) (fun _ _ _ h => h) (by rfl) ?h6 (by assumption) ?_
              case h6 => exact fun w _ => run_eql_op rfl rfl rfl hg (hq w)
              simp only [List.setIfInBounds_toArray, List.set_cons_zero, List.set_cons_succ]
              refine Ord.take (i := 7) (d := 76) (v := ?v7s00) rfl rfl (by as_aux_lemma => kernel_rfl) (by as_aux_lemma => kernel_rfl) (by as_aux_lemma => kernel_rfl) (fun _ _ _ h => h) (by rfl) ?h7 (by assumption) ?_
              case h7 => intro w hSw; go_simp; try with_reducible rfl
              simp only [List.setIfInBounds_toArray, List.set_cons_zero, List.set_cons_succ]
              refine wpAnyH_ready (rs := [8]) (by as_aux_lemma => kernel_rfl) (by simp) (AllReadyH.cons rfl (fun K hK => ?_) AllReadyH.nil)
              go_simp
              refine (alive_any _ (HLw.out.later hS5)).mono ?_
              rintro _ x8 ⟨rfl, hb8⟩
              have hS8 := Bn hS5 hb8
              refine hK.out _ _ hS8 (fun _ => ?_)
              clear hK K hb8
              refine Ord.take (i := 9) (d := 78) (v := ?v9s00) rfl rfl (by as_aux_lemma => kernel_rfl) (by as_aux_lemma => kernel_rfl) (by as_aux_lemma => kernel_rfl) (fun _ _ _ h => h) (by rfl) ?h9 (by assumption) ?_
              case h9 => intro w hSw; go_simp; try with_reducible rfl
              simp only [List.setIfInBounds_toArray, List.set_cons_zero, List.set_cons_succ]
              refine Ord.take (i := 10) (d := 4) (v := ?v10s00) rfl rfl (by as_aux_lemma => kernel_rfl) (by as_aux_lemma => kernel_rfl) (by as_aux_lemma => kernel_rfl) (fun _ _ _ h => h) (by rfl) ?h10 (by assumption) ?_
              case h10 => intro w hSw; go_simp; try with_reducible rfl
              simp only [List.setIfInBounds_toArray, List.set_cons_zero, List.set_cons_succ]
              refine wpAnyH_done (by as_aux_lemma => kernel_rfl) ?_ _
              have HE := hid (Bn HBw.out hS8)
              clear hS hSA hS3 hS5 hS8 hq hLd
              go_wp2
              go_ret
              exact ⟨rfl, HE.out⟩

set_option maxRecDepth 100000 in
theorem lifted (os : Os) (started : os.Started) (H : Type) (enc : TypeId × Value → H) :
    ReturnsInHanded {} Tryd.checked os 8 .any (fun w args => (Rows.shaBlocksSpec.pre enc Tryd.prog Tryd.f8 [] false w args ∧ laidMetH Tryd.prog laidL w) ∧ sizedMet enc Tryd.prog Tryd.f8 (OpenSpec.ofChange Rows.shaBlocksSpec) false w args)
      (Rows.shaBlocksSpec.post enc Tryd.prog Tryd.f8 false true false false) := by
  refine returnsInHanded_of_change_and (C := Tryd.checked) (X := fun w _ => laidMetH Tryd.prog laidL w) (fun _ _ _ hh h => h.of_heap hh) own started (by kernel_rfl) Tryd.func8
    (ChangeSpec.witness_shaped (enc := enc) (C := Tryd.checked) (os := os) (X := fun w _ => laidMetH Tryd.prog laidL w) false (World.doorLaid Tryd.prog 400 os) #[.slice none 0 0, .slice none 0 0] 8 rfl (World.shaped_of_RefB (by kernel_rfl) (by kernel_rfl)) (by kernel_rfl) (by kernel_rfl) (by kernel_rfl) (door_met os _)) ?_
  intro W base args ds gs before hval0 hW _ _ hL _
  have hval : ∀ (j : Nat) t v, Tryd.f8.params[j]? = some t → args[j]? = some v → Value.okWide Tryd.prog W .any base t v := hval0
  have hW' := hW
  obtain ⟨p, q, hA0, hV, rfl, _, _⟩ := hW
  have hA : DataW.TrodAll enc Tryd.prog W 0 (fun _ => true) true Tryd.f8.params.toList args.toList ds p := hA0
  rw [Tryd.params8] at hA hval
  obtain ⟨v0, vs0, d0, ds0, p0, q0, hargs, rfl, rfl, h0, r0⟩ := trodAll_cons hA
  obtain ⟨v1, vs1, d1, ds1, p1, q1, rfl, rfl, rfl, h1, r1⟩ := trodAll_cons r0
  obtain ⟨rfl, rfl, rfl⟩ := trodAll_nil r1
  obtain rfl : args = #[v0, v1] := by cases args; simp_all
  obtain ⟨rfl, rfl⟩ := trodVars_none hV
  have hlaid := of_laid hL
  clear hA0
  simp only [List.append_nil] at hW'
  have hlt0 : ∀ x ∈ p0, x.block < W.heap.size := fun x hx => hW'.lt x (by simp [hx])
  have hk0 := h0
  obtain ⟨a0, cap0, l0, rfl, hr0⟩ := open_bs (hval 0 56 v0 rfl rfl) h0 hlt0
  have hlt1 : ∀ x ∈ p1, x.block < W.heap.size := fun x hx => hW'.lt x (by simp [hx])
  have hk1 := h1
  obtain ⟨a1, cap1, zs1, rfl, hr1⟩ := open_rd (hval 1 35 v1 rfl rfl) h1 hlt1
  clear hval0
  refine (walk a0 cap0 l0 a1 cap1 zs1 W hlaid hr0 hr1).mono fun e W' ⟨he, hb⟩ => ?_
  subst he
  exact ⟨_, rfl, _, _, _, [] ++ [], _, [], hW', trodAll_cons_mk (shut_bool Tryd.underlying4 _) trodAll_mk0, (trodAll_cons_mk (Below.trod Tryd.laidOut (by kernel_rfl) (of_decide_eq_true (by kernel_rfl)) hk0 hb hlt0) (trodAll_cons_mk (Below.trod Tryd.laidOut (by kernel_rfl) (of_decide_eq_true (by kernel_rfl)) hk1 hb hlt1) trodAll_mk0)), rfl, hb.frame _, fun h => by cases h⟩

theorem over : Rows.shaBlocksRow.holds Tryd.pinned (OpenSpec.ofChange Rows.shaBlocksSpec) :=
  OpenClaim.holds_of_wide 8 Tryd.f8 rfl rfl rfl rfl rfl rfl rfl ⟨rfl, rfl, rfl, rfl, rfl⟩ rfl rfl rfl rfl rfl (by kernel_rfl) Tryd.func8 (by kernel_rfl)
    (of_decide_eq_true (by kernel_rfl)) (by unfold Func.isWrapper; first | (rw [if_pos (by decide +kernel)]; kernel_rfl) | (rw [if_neg (by decide +kernel)]; exact ⟨rfl, rfl⟩))
    (fun os started H enc _ => lifted os started H enc)

theorem card : Rows.ShaBlocksCardSaid :=
  Claim7.holds_tied_plain_at .later [] [.data, .data] true (true, "6c6f4a323530e6db23c53d62cf6eb094d8017c5b4fd6273f756ed505cd0c3c11") false
    over (fun _ h => by cases h) (by kernel_rfl) (fun _ h => by cases h) shaBlocks_row_tie rfl ⟨rfl, rfl⟩ (by kernel_rfl) rfl
    (fun f fn hf hfn => by
      obtain rfl : f = 8 := Option.some.inj ((show Tryd.prog.funcNamed "saltern/salternlaw03.ShaBlocks" = some 8 by kernel_rfl).symm.trans hf) |>.symm
      obtain rfl : fn = Tryd.f8 := (Option.some.inj (Tryd.func8.symm.trans hfn)).symm
      exact ⟨by kernel_rfl, fun j t ht => by
        rw [Tryd.params8] at ht
        have hm : t ∈ [56, 35] := by simpa using Array.mem_of_getElem? ht
        have hall : ([56, 35].all fun u => !Tryd.prog.wantsStandIn u) = true := by kernel_rfl
        exact (show Tryd.prog.wantsStandIn t = false by simpa using List.all_eq_true.1 hall t hm)⟩)
    (by kernel_rfl)

end Go.Proofs.YtkehhlbbnlnbcaaDoor.shaBlocks
namespace Go.Proofs.YtkehhlbbnlnbcaaDoor
theorem shaBlocks_holds : Rows.ShaBlocksCardSaid := shaBlocks.card
#print axioms shaBlocks_holds
end Go.Proofs.YtkehhlbbnlnbcaaDoor
