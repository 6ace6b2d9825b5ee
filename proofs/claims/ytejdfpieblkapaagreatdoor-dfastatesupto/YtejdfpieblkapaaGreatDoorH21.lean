/- newMaker. -/
import Derived.Test.YtejdfpieblkapaaGreatDoorH9
import Derived.Test.YtejdfpieblkapaaGreatDoorH11
import Derived.Test.YtejdfpieblkapaaGreatDoorH16
import Derived.Test.YtejdfpieblkapaaGreatDoorH18
import Derived.Test.YtejdfpieblkapaaGreatDoorH20
namespace Go.Proofs.YtejdfpieblkapaaGreatDoor
open Lib renaming hid → zh
open Go.RowKit Go.Shelf

theorem fo_eq (rs : List Rx) (p : Nat) (l : List Nat) (h : ∀ q, q ∈ l ↔ folS rs 0 p q = true) (hp : p < cntS rs) : puts (List.replicate ((cntS rs + 63) / 64) 0) l = (mkM rs).fo p := by
 have hl : ∀ q ∈ l, q < cntS rs := fun q hq => folS_lt hp ((h q).1 hq)
 refine wds_of (by rw [puts_len]; simp) (puts_lt (fun x hx => by rw [List.eq_of_mem_replicate hx]; decide)) (fun q => ?_)
 rw [bt_puts _ _ (fun x hx => by have := hl x hx; simp; omega), bt_none, Bool.false_or, decide_eq_true_eq, h q]
 constructor
 ·intro hq; exact ⟨hl q ((h q).2 hq), hq⟩
 ·exact fun hq => hq.2
def kf (rs : List Rx) (j : Nat) : Value := if j < 256 then pv (grp (colH rs) j) else pv 0
theorem gcs_kf (rs : List Rx) : gcs (colH rs) 256 = (List.range 256).map (kf rs) := by
 unfold gcs
 exact List.map_congr_left (fun j _ => rfl)
attribute [local irreducible] seen kf
set_option maxRecDepth 100000 in
set_option maxHeartbeats 8000000 in
theorem maker_any (w : World) (Bm mb : Nat) (rs : List Rx) (h : MsAt w Bm mb rs) (hR : rs.length ≤ 1000) (hT : TabH w) :
  Calls Tryz.prog 63 #[ptr mb] w fun e w' => ∃ (mk mp gf gh cF cH : Nat) (AF : Option Addr) (cs : List Value) (v5 : Value) (S : Nat → Prop), e = .returned (ptr mk) ∧ MkS w' (mkM rs) S gf gh cF cH AF cs ∧ MkD w' mk mp w.heap.size (mkM rs).nw cs v5 [] ∧ cs[261]? = some (.slice none 0 0) ∧ (∀ i, S i → i < w'.heap.size) ∧ ¬ S mk ∧ ¬ S mp ∧ (∀ g, v5.ownBlock = some g → ¬ S g) ∧ w.heap.size ≤ mk ∧ w.heap.size ≤ mp ∧ Below w.heap.size w w' ∧ ∀ b < 256, cs[2 + b]? = some (pv (knd rs b)) := by
 have hmm := @run_makeMap Tryz.prog
 have HM := zh h; have HT := zh hT
 obtain ⟨N, hN⟩ : ∃ N, N = cntS rs := ⟨_, rfl⟩
 obtain ⟨R, hRe⟩ : ∃ R, R = rs.length := ⟨_, rfl⟩
 obtain ⟨nw, hnw⟩ : ∃ nw, nw = nwd N := ⟨_, rfl⟩
 have hN2 : N ≤ 2000 := by rw [hN]; exact h.le
 have HL := zh (len_ms w Bm mb rs h)
 rw [← hN] at HL
 rw [← hRe] at hR
 have HN := zh hN; have HRE := zh hRe; have HNW := zh hnw
 have hnw2 : nw ≤ 100 := by rw [hnw]; show (N + 63) / 64 ≤ 100; omega
 have hnwe : (N + 63) / 64 = nw := hnw.symm
 have HNE := zh hnwe
 clear h hT hN hRe hnw
 go_enter Tryz.func63, Tryz.ntmps63
 go_wp2_with fail
 refine HL.out.mono ?_
 rintro e w1 ⟨rfl, hw1⟩
 rw [hw1]
 clear hw1 HL
 have HNEW := zh (bs_new w N (by omega))
 rw [hnwe] at HNEW
 clear hnwe
 go_wp2_with fail
 refine HNEW.out.mono ?_
 rintro e w2 ⟨rfl, hz, hb2⟩
 have hmp := MpAt.made w2 StrK
 have hal := (Below.refl _ w2).alloc (Nat.le_refl _) (.map #[] 0)
 obtain ⟨mp, hmpe⟩ : ∃ mp, mp = w2.heap.size := ⟨_, rfl⟩
 have HNEW2 := zh (bs_new (w2.alloc (.map #[] 0)) N (by omega))
 rw [HNE.out] at HNEW2
 clear HNEW
 go_wp2_with fail
 rw [← hmpe] at hmp ⊢
 generalize w2.alloc (.map #[] 0) = w3 at hmp hal HNEW2 ⊢
 refine HNEW2.out.mono ?_
 rintro e w4 ⟨rfl, hz4, hb4⟩
 obtain ⟨gf, hgf⟩ : ∃ gf, gf = w.heap.size := ⟨_, rfl⟩
 obtain ⟨g0, hg0⟩ : ∃ g0, g0 = w3.heap.size := ⟨_, rfl⟩
 obtain ⟨gst, hgst⟩ : ∃ gst, gst = w4.heap.size := ⟨_, rfl⟩
 rw [← hgf] at hz
 rw [← hg0] at hz4
 have HGF := zh hgf; have HG0 := zh hg0; have HGST := zh hgst; have HMPE := zh hmpe
 have HZ := zh hz; have HZ4 := zh hz4; have HMP := zh hmp; have HB2 := zh hb2; have HAL := zh hal; have HB4 := zh hb4
 clear HNEW2 hgf hg0 hgst hmpe hz hz4 hmp hb2 hal hb4
 go_upto_region 3 with fail
 rw [← HGF.out, ← HG0.out, ← HGST.out, zc108]
 have hx5 := Boxed.new w4 87 (bsV g0 nw)
 have hal5 := (Below.refl _ w4).alloc (Nat.le_refl _) (.cells #[bsV g0 nw] 87)
 have hs5 : (w4.alloc (.cells #[bsV g0 nw] 87)).heap.size = gst + 1 := by rw [HGST.out]; simp
 rw [← HGST.out] at hx5
 generalize w4.alloc (.cells #[bsV g0 nw] 87) = w5 at hx5 hal5 hs5 ⊢
 have hx6 := heap_alloc_new w5 (.cells (mkC gf nw mp gst (.slice none 0 0) (fun _ => pv 0) (.slice none 0 0)).toArray 108)
 have hal6 := (Below.refl _ w5).alloc (Nat.le_refl _) (.cells (mkC gf nw mp gst (.slice none 0 0) (fun _ => pv 0) (.slice none 0 0)).toArray 108)
 rw [hs5] at hx6
 obtain ⟨mk, hmk⟩ : ∃ mk, mk = gst + 1 := ⟨_, rfl⟩
 rw [← hmk] at hx6 ⊢
 generalize w5.alloc (.cells (mkC gf nw mp gst (.slice none 0 0) (fun _ => pv 0) (.slice none 0 0)).toArray 108) = w6 at hx6 hal6 ⊢
 have hlo : w.heap.size ≤ gf ∧ gf < mp ∧ mp < g0 ∧ g0 < gst ∧ gst < mk := by
  have h1 := lt_of_heap HZ.out.1
  have h2 := HMP.out.lt
  have h3 := lt_of_heap HZ4.out.1
  have := HMPE.out; have := HGF.out; have := HG0.out; have := HGST.out
  omega
 have hbw3 : Below w.heap.size w w3 := HB2.out.trans (HAL.out.mono HB2.out.size)
 have hbw4 : Below w.heap.size w w4 := hbw3.trans (HB4.out.mono hbw3.size)
 have hbw5 : Below w.heap.size w w5 := hbw4.trans (hal5.mono hbw4.size)
 have hbw6 : Below w.heap.size w w6 := hbw5.trans (hal6.mono hbw5.size)
 have HNM : Hid (Nm w w6 gf nw mp gst g0 mk (.slice none 0 0) (fun _ => pv 0) (.slice none 0 0)) := zh ⟨hx6, (((HMP.out.keep (HB4.out.block _ HMP.out.lt) (fun _ h => h)).keep (hal5.block _ (by have := HGST.out; omega)) (fun _ h => h)).keep (hal6.block _ (by omega)) (fun _ h => h)), (hal6.block gst (by omega)).trans hx5, (HZ4.out.below hal5).below hal6, hbw6, hlo⟩
 have HZF : Hid (BsAt w6 gf (List.replicate nw 0)) := zh ((((HZ.out.below HAL.out).below HB4.out).below hal5).below hal6)
 clear hx5 hx6 hal5 hal6 hs5 hmk hbw3 hbw4 hbw5 hbw6 HZ HZ4 HMP HB2 HAL HB4 HGF HG0 HGST HMPE
 have HRU := zh (rules_ms w6 Bm mb rs (HM.out.below HNM.out.bl))
 rw [← HRE.out] at HRU
 go_wp2_with fail
 refine HRU.out.mono ?_
 rintro e w7 ⟨rfl, hw7⟩
 rw [hw7]
 clear hw7 HRU
 go_wp2_with fail
 go_loopw [27] (fun i wr => ∃ k : Nat, k ≤ R ∧ i = .int .i64 k ∧ Hid (Nm w wr gf nw mp gst g0 mk (.slice none 0 0) (fun _ => pv 0) (.slice none 0 0)) ∧ ∃ us, Hid (BsAt wr gf us ∧ us.length = nw ∧ ∀ q, bt us q = true ↔ ∃ (i : Nat) (l : List Nat), i < k ∧ (fstS rs 0)[i]? = some l ∧ q ∈ l)) (fun i _ => R - (intOf i).toNat)
 case atStart => exact ⟨0, Nat.zero_le _, rfl, HNM, _, zh ⟨HZF.out, by simp, fun q => ⟨fun h => (by rw [bt_none] at h; cases h), fun h => (by obtain ⟨i, l, h, _⟩ := h; omega)⟩⟩⟩
 case round =>
  clear HNM HZF
  obtain ⟨k, hk, rfl, HNM, us, HU⟩ := hrel
  by_cases hlt : k < R
  ·have hki : (k : Int) < R := by omega
   have hk0 : (0 : Int) ≤ k := by omega
   obtain ⟨l, hl⟩ : ∃ l, (fstS rs 0)[k]? = some l := ⟨_, List.getElem?_eq_getElem (by rw [fstS_len, ← HRE.out]; exact hlt)⟩
   have HLA := zh (first_any wr Bm mb rs (HM.out.below HNM.out.bl) (by rw [← HRE.out]; exact hR) k l hl)
   have HLL := zh hl
   have HLT : Hid (∀ q ∈ l, q < cntS rs) := zh (fun q hq => FsS.lt ⟨k, l, HLL.out, hq⟩)
   clear hl
   go_wp2_with fail
   refine HLA.out.mono ?_
   rintro e w4 ⟨v, rfl, how, hb4⟩
   obtain ⟨A, c, rfl, hcap, hcap2⟩ := own_form how
   obtain ⟨nl, hnl⟩ : ∃ nl, nl = l.length := ⟨_, rfl⟩
   have hnl2 : nl ≤ 2000 := by
    have := (fstS_get HLL.out).2
    rw [← HN.out] at this
    omega
   rw [← hnl] at how ⊢
   have HNL := zh hnl; have HOW := zh how
   obtain ⟨hu1, hu2, hu3⟩ := HU.out
   have hgl := lt_of_heap hu1.1
   have HGL := zh hgl
   have HU4 := zh (hu1.below hb4)
   have HU2 := zh hu2; have HU3 := zh hu3
   have HNM4 := zh (HNM.out.below hb4)
   clear hnl how hu1 hu2 hu3 hb4 HLA HU HNM hcap hcap2 hgl
   go_wp2_with fail
   go_loopw [34] (fun i wq => ∃ j : Nat, j ≤ nl ∧ i = .int .i64 j ∧ Hid (BsAt wq gf (puts us (l.take j))) ∧ Hid (Kb (fun i => i = gf) w4 wq)) (fun i _ => nl - (intOf i).toNat)
   case atStart => exact ⟨0, Nat.zero_le _, rfl, HU4, zh (Kb.refl _ _)⟩
   case round =>
    clear HU4
    obtain ⟨j, hj, rfl, HUJ, HK⟩ := hrel
    have HNJ := zh (HNM4.out.keep HK.out (fun i e => .inl e))
    obtain ⟨c0, _, _, _⟩ := HNJ.out.cell
    by_cases hlj : j < nl
    ·have hji : (j : Int) < nl := by omega
     have hj0 : (0 : Int) ≤ j := by omega
     obtain ⟨q, hq⟩ : ∃ q, l[j]? = some q := ⟨_, List.getElem?_eq_getElem (by rw [← HNL.out]; exact hlj)⟩
     have hrow := own_kb HOW.out HK.out (fun g hg e => by have := (own_ty HOW.out hg).1; have := HGL.out; omega)
     obtain ⟨g, cap, hv, hg1, hg2⟩ := hrow.form (by omega)
     injection hv with hA _ hc
     subst hA
     subst hc
     have cq := hrow.cellAt j (by omega)
     rw [List.getElem?_map, hq] at cq
     have hqm := List.mem_of_getElem? hq
     have hqN := HLT.out q hqm
     rw [← HN.out] at hqN
     have hpl : (puts us (l.take j)).length = nw := by rw [puts_len, HU2.out]
     have hqd : q / 64 < nw := by rw [HNW.out]; exact nwd_div hqN
     have HE := zh (bs_add wr gf q nw _ HUJ.out hpl.symm (by rw [hpl]; exact hqd) (by omega))
     have HPU := zh (show puts us (l.take (j + 1)) = put1 (puts us (l.take j)) q by rw [List.take_add_one, hq]; exact puts_snoc _ _ _)
     have HP1 := zh (put1_eq (puts us (l.take j)) q (by rw [hpl]; exact hqd))
     clear hrow hg1 hg2 hq hqm
     simp only [Option.map_some] at cq
     go_wp2_with fail
     refine HE.out.mono ?_
     rintro e w5 ⟨rfl, h1, h2⟩
     rw [← HP1.out, ← HPU.out] at h1
     have H1 := zh h1; have H2 := zh h2
     clear h1 h2 HE HP1
     go_wp2_with fail
     go_roundw
     case rel => exact ⟨j + 1, by omega, by go_num, H1, zh (HK.out.trans H2.out (fun i _ hi => hi))⟩
     case measure => simp [intOf]; omega
    ·obtain rfl : j = nl := by omega
     have h1 := HUJ.out
     rw [HNL.out, List.take_length] at h1
     have H1 := zh h1
     have HIF := zh (show ∀ q, bt (puts us l) q = true ↔ ∃ (i : Nat) (l : List Nat), i < k + 1 ∧ (fstS rs 0)[i]? = some l ∧ q ∈ l from fun q => by
      rw [bt_puts us l (fun p hp => by
       have := HLT.out p hp
       rw [HU2.out, HNW.out, HN.out]
       exact nwd_div this), Bool.or_eq_true, HU3.out q, decide_eq_true_eq]
      constructor
      ·rintro (⟨i, l', h1, h2, h3⟩ | h)
       ·exact ⟨i, l', by omega, h2, h3⟩
       ·exact ⟨k, l, by omega, HLL.out, h⟩
      ·rintro ⟨i, l', h1, h2, h3⟩
       rcases Nat.lt_or_ge i k with h4 | h4
       ·exact .inl ⟨i, l', h4, h2, h3⟩
       ·obtain rfl : i = k := by omega
        rw [HLL.out] at h2
        exact .inr (by rw [Option.some.inj h2]; exact h3))
     have HLE := zh (show (puts us l).length = nw by rw [puts_len]; exact HU2.out)
     clear h1 HUJ c0
     go_wp2_with fail
     refine ⟨⟨k + 1, by omega, by go_num, HNJ, _, zh ⟨H1.out, HLE.out, HIF.out⟩⟩, ?_⟩
     simp [intOf]; omega
  ·obtain rfl : k = R := by omega
   obtain ⟨hu1, hu2, hu3⟩ := HU.out
   have hfi : us = (mkM rs).fi := wds_of (by rw [hu2, HNW.out, HN.out]) hu1.2 (fun q => by
    rw [hu3 q]
    simp only [List.any_eq_true, decide_eq_true_eq]
    constructor
    ·rintro ⟨i, l, _, h2, h3⟩
     exact ⟨FsS.lt ⟨i, l, h2, h3⟩, l, List.mem_of_getElem? h2, h3⟩
    ·rintro ⟨_, l, h2, h3⟩
     obtain ⟨i, hi⟩ := List.getElem?_of_mem h2
     exact ⟨i, l, by rw [HRE.out]; exact (fstS_get hi).1, hi, h3⟩)
   rw [hfi] at hu1
   have HFI := zh hu1
   clear hu1 hu2 hu3 hfi HU
   obtain ⟨i0, hi0, hz0, hz1, hz2⟩ := info_parts Tryz.info87
   have HI := zh hi0; have HZ0 := zh hz0; have HZ1 := zh hz1; have HZ2 := zh hz2
   clear hi0 hz0 hz1 hz2
   go_wp2_with fail
   obtain ⟨wa, hwa⟩ : ∃ wa, wa = wr := ⟨_, rfl⟩
   go_loopw [47] (fun i wr => ∃ (p : Nat) (v1 : Value) (gs : Nat → Nat), p ≤ N ∧ i = .int .i64 p ∧ Hid (Nm w wr gf nw mp gst g0 mk v1 (fun _ => pv 0) (.slice none 0 0)) ∧ Hid (BsAt wr gf (mkM rs).fi) ∧ Hid (wr.ownsRow (mk + 1) 87 1 v1 p ((List.range p).map fun j => bsV (gs j) nw)) ∧ Hid (∀ j < p, BsAt wr (gs j) ((mkM rs).fo j))) (fun i _ => N - (intOf i).toNat)
   case atStart => exact ⟨0, _, fun _ => 0, Nat.zero_le _, rfl, HNM, HFI, zh (World.ownsRow_nil _ _ _ _), zh (fun j h => by omega)⟩
   case round =>
    clear HNM HFI
    obtain ⟨p, v1, gs, hp, rfl, HNM, HFI, HO, HGS⟩ := hrel
    obtain ⟨A1, c1, rfl, hac, hcm⟩ := own_form HO.out
    by_cases hlp : p < N
    ·have hpi : (p : Int) < N := by omega
     have hp0 : (0 : Int) ≤ p := by omega
     obtain ⟨_, d1, _, hfz⟩ := HNM.out.cell
     go_upto_region 15 with fail
     rename_i KR hKR
     have HKR := zh hKR
     clear hKR
     have HD1 := zh d1
     have HFOL := zh (follow_any wr.drew Bm mb rs ((HM.out.below HNM.out.bl).below (Below.refl _ wr).drew) ((HT.out.below HNM.out.bl).below (Below.refl _ wr).drew) p (by rw [← HN.out]; exact hlp))
     clear d1
     refine wp_region_inv (fun L a w' => ∃ v50 v51 v52 v53 v54 v55 v56 v57 v58 v59 v60 v61 v62 v63 : Value, a = { tmps := #[ptr mb, undef, .pointer none, .int .i64 N, .pointer (some ⟨mk, 0, none⟩), u5, undef, u7, .int .i64 p, undef, undef, undef, undef, undef, undef, ptr mb, .int .i64 N, .int .i64 N, bsV gf nw, .map (some mp), .int .i64 N, bsV g0 nw, .slice (some ⟨gst, 0, none⟩) 1 1, .agg (mkC gf nw mp gst (.slice none 0 0) (fun _ => pv 0) (.slice none 0 0)).toArray, .pointer (some ⟨mk, 0, none⟩), ptr mb, .int .i64 k, .int .i64 k, .bool false, u29, u30, u31, u32, u33, u34, u35, u36, u37, u38, u39, u40, u41, u42, u43, u44, u45, .int .i64 N, .int .i64 p, .bool true, .int .i64 p, v50, v51, v52, v53, v54, v55, v56, v57, v58, v59, v60, v61, v62, v63, u64, undef, undef, undef, undef, undef, undef, undef, undef, undef, undef, undef, undef, undef, undef, undef, undef, undef, undef, undef, undef, undef, undef, undef, undef, undef, undef, undef, undef, undef, undef, undef, undef, undef, undef, undef, undef, undef, undef, undef, undef, undef, undef, undef, undef, undef, undef, undef, undef, undef, undef, undef, undef, undef, undef, undef], defers := [] } ∧ Hid (StF wr.drew ((mkM rs).fo p) mk nw (mk + 1) p (.slice A1 p c1) ((List.range p).map fun j => bsV (gs j) nw) (fun l => ∀ q, q ∈ l ↔ folS rs 0 p q = true) L w' v58 v59 v60 v61) ∧ (L 0 = true → v50 = ptr mk) ∧ (L 1 = true → v51 = ptr mk) ∧ (L 2 = true → v52 = .pointer (some ⟨mk, 0, none⟩)) ∧ (L 3 = true → v53 = .pointer (some ⟨mk, 1, none⟩)) ∧ (L 4 = true → v54 = .slice A1 p c1) ∧ (L 5 = true → v55 = .int .i64 N) ∧ (L 6 = true → v56 = ptr mb) ∧ (L 7 = true → v57 = .int .i64 p) ∧ (L 12 = true → v62 = .pointer (some ⟨mk, 0, none⟩)) ∧ (L 13 = true → v63 = .pointer (some ⟨mk, 1, none⟩))) (by kernel_rfl) (by kernel_rfl) ?stepQ ?finQ ?startQ
     case startQ =>
      intro L hL
      have n : ∀ j, j < 15 → ∀ {p : Prop}, L j = true → p := fun j hj p h => by rw [hL j hj] at h; cases h
      exact ⟨_, _, _, _, _, _, _, _, _, _, _, _, _, _, rfl, zh (StF.start hL), n 0 (by omega), n 1 (by omega), n 2 (by omega), n 3 (by omega), n 4 (by omega), n 5 (by omega), n 6 (by omega), n 7 (by omega), n 12 (by omega), n 13 (by omega)⟩
     case stepQ =>
      intro j o L a w' ho hL haft hI K' hK
      obtain ⟨v50, v51, v52, v53, v54, v55, v56, v57, v58, v59, v60, v61, v62, v63, rfl, HF, h0, h1, h2, h3, h4, h5, h6, h7, h12, h13⟩ := hI
      have hj : j < 15 := (Array.getElem?_eq_some_iff.1 ho).1
      rcases (show j = 0 ∨ j = 1 ∨ j = 2 ∨ j = 3 ∨ j = 4 ∨ j = 5 ∨ j = 6 ∨ j = 7 ∨ j = 8 ∨ j = 9 ∨ j = 10 ∨ j = 11 ∨ j = 12 ∨ j = 13 ∨ j = 14 by omega) with rfl | rfl | rfl | rfl | rfl | rfl | rfl | rfl | rfl | rfl | rfl | rfl | rfl | rfl | rfl
      all_goals (replace ho := Option.some.inj ho; subst ho)
      ·clear haft
       go_simp
       exact hK.out _ _ ⟨_, _, _, _, _, _, _, _, _, _, _, _, _, _, rfl, zh HF.out.p0, fun _ => rfl, h1, h2, h3, h4, h5, h6, h7, h12, h13⟩
      ·clear haft
       go_simp
       exact hK.out _ _ ⟨_, _, _, _, _, _, _, _, _, _, _, _, _, _, rfl, zh HF.out.p1, h0, fun _ => rfl, h2, h3, h4, h5, h6, h7, h12, h13⟩
      ·have l1 := haft ⟨1, .data⟩ (by simp) rfl
       obtain rfl := h1 l1
       clear haft
       go_simp
       exact hK.out _ _ ⟨_, _, _, _, _, _, _, _, _, _, _, _, _, _, rfl, zh HF.out.p2, h0, h1, fun _ => rfl, h3, h4, h5, h6, h7, h12, h13⟩
      ·have l2 := haft ⟨2, .data⟩ (by simp) rfl
       obtain rfl := h2 l2
       clear haft
       go_simp
       exact hK.out _ _ ⟨_, _, _, _, _, _, _, _, _, _, _, _, _, _, rfl, zh HF.out.p3, h0, h1, h2, fun _ => rfl, h4, h5, h6, h7, h12, h13⟩
      ·have l3 := haft ⟨3, .data⟩ (by simp) rfl
       obtain rfl := h3 l3
       have hn11 : L 11 = false := by
        cases e : L 11 with
        | false => rfl
        | true => rw [HF.out.i4 e] at hL; cases hL
       have c1' : w'.cell? ⟨mk, 1, none⟩ = some (.slice A1 p c1) := ((HF.out.n11 hn11).cell (p := ⟨mk, 1, none⟩) (cell_lt HD1.out)).trans HD1.out
       clear haft
       go_simp
       exact hK.out _ _ ⟨_, _, _, _, _, _, _, _, _, _, _, _, _, _, rfl, zh HF.out.p4, h0, h1, h2, h3, fun _ => rfl, h5, h6, h7, h12, h13⟩
      ·clear haft
       go_simp
       exact hK.out _ _ ⟨_, _, _, _, _, _, _, _, _, _, _, _, _, _, rfl, zh HF.out.p5, h0, h1, h2, h3, h4, fun _ => rfl, h6, h7, h12, h13⟩
      ·clear haft
       go_simp
       exact hK.out _ _ ⟨_, _, _, _, _, _, _, _, _, _, _, _, _, _, rfl, zh HF.out.p6, h0, h1, h2, h3, h4, h5, fun _ => rfl, h7, h12, h13⟩
      ·clear haft
       go_simp
       exact hK.out _ _ ⟨_, _, _, _, _, _, _, _, _, _, _, _, _, _, rfl, zh HF.out.p7, h0, h1, h2, h3, h4, h5, h6, fun _ => rfl, h12, h13⟩
      ·have l6 := haft ⟨6, .data⟩ (by simp) rfl
       have l7 := haft ⟨7, .data⟩ (by simp) rfl
       obtain rfl := h6 l6
       obtain rfl := h7 l7
       obtain rfl := HF.out.n8 hL
       clear haft
       go_simp
       go_at_call 20
       refine HFOL.out.mono ?_
       rintro e w2 ⟨v, l, rfl, f1, f2, f3, f4, f5⟩
       obtain ⟨Af, cf, rfl, _⟩ := own_form f1
       exact hK.out _ _ ⟨_, _, _, _, _, _, _, _, _, _, _, _, _, _, rfl, zh (HF.out.s8 hL f5 ⟨Af, cf, l, rfl, own_ns f1, f2, f4⟩), h0, h1, h2, h3, h4, h5, h6, h7, h12, h13⟩
      ·have l5 := haft ⟨5, .data⟩ (by simp) rfl
       have l8 := haft ⟨8, .data⟩ (by simp) rfl
       obtain rfl := h5 l5
       obtain ⟨Af, cf, l, rfl, f1, f2, f3⟩ := HF.out.a l8 hL
       have HOFF := zh (bs_ofc w' N l.length cf Af l f1 rfl (by omega) (by omega) (fun q hq => by rw [HN.out]; exact folS_lt (by rw [← HN.out]; exact hlp) ((f2 q).1 hq)))
       have HEQ := zh (fo_eq rs p l f2 (by rw [← HN.out]; exact hlp))
       rw [← HN.out, HNE.out] at HEQ
       rw [HNE.out] at HOFF
       clear haft f1 f2 f3
       go_simp
       go_at_call 92
       refine HOFF.out.mono ?_
       rintro e w2 ⟨rfl, f4, f5⟩
       rw [HEQ.out] at f4
       exact hK.out _ _ ⟨_, _, _, _, _, _, _, _, _, _, _, _, _, _, rfl, zh (HF.out.s9 hL l8 f5 f4 (Nat.le_refl _)), h0, h1, h2, h3, h4, h5, h6, h7, h12, h13⟩
      ·have l9 := haft ⟨9, .data⟩ (by simp) rfl
       obtain ⟨g, rfl, f1, f2⟩ := HF.out.b l9 hL
       have HF1 := zh (HF.out.s10 hL l9 rfl f1 f2)
       clear haft f1
       go_simp
       exact hK.out _ _ ⟨_, _, _, _, _, _, _, _, _, _, _, _, _, _, rfl, HF1, h0, h1, h2, h3, h4, h5, h6, h7, h12, h13⟩
      ·have l4 := haft ⟨4, .data⟩ (by simp) rfl
       have l10 := haft ⟨10, .data⟩ (by simp) rfl
       obtain rfl := h4 l4
       obtain ⟨g, bk, rfl, f1, f2, f3, f4⟩ := HF.out.c l10 hL
       have hbw := HF.out.n11 hL
       have F1 := zh f1; have F2 := zh f2; have HBW := zh hbw
       have HO' := zh (own_kb HO.out (Kb.of_below (fun _ => False) hbw).from_drew (fun _ _ h => h))
       have hszw : wr.heap.size ≤ w'.heap.size := hbw.size
       have f4' : wr.heap.size ≤ bk := f4
       have hmks : mk + 1 ≤ wr.heap.size := lt_of_heap HNM.out.blk
       clear haft f1 f2 hbw
       refine Eq.mpr (if_pos ?wanted) ?_
       case wanted => rfl
       refine wp_append_lies w' _ _ 76 rfl (mk + 1) 87 i0 _ 1 24 Tryz.underlying76 HI.out HZ0.out HZ1.out HZ2.out rfl (by omega) (.slice A1 p c1) p _ rfl HO'.out ⟨bk, 0, none⟩ 1 1 [bsV g nw] rfl rfl (World.news_of_block (cs := #[bsV g nw]) (t := 87) (fr := (0, 0)) F1.out) (by simp [Value.oneCell']) (by omega) (by unfold maxLen; omega) (by omega) (by omega) _ rfl ?_
       intro gg cap w2 o1 o2 _ _
       have hk2 := (Kb.of_below (fun i => some i = (Value.slice A1 p c1).ownBlock) HBW.out).trans (Kb.of_grown o2) (fun _ _ x => x)
       have hg2 := F2.out.keep (Kb.of_grown o2) (fun e => by obtain ⟨_, c', h⟩ := own_ty HO'.out e.symm; rw [F2.out.1] at h; injection h with h; injection h with _ h; cases h)
       have HF1 := zh (HF.out.s11 hL l10 l4 o1 hg2 hk2)
       clear o1 o2 hk2 hg2
       go_simp
       exact hK.out _ _ ⟨_, _, _, _, _, _, _, _, _, _, _, _, _, _, rfl, HF1, h0, h1, h2, h3, h4, h5, h6, h7, h12, h13⟩
      ·have l0 := haft ⟨0, .data⟩ (by simp) rfl
       obtain rfl := h0 l0
       clear haft
       go_simp
       exact hK.out _ _ ⟨_, _, _, _, _, _, _, _, _, _, _, _, _, _, rfl, zh HF.out.p12, h0, h1, h2, h3, h4, h5, h6, h7, fun _ => rfl, h13⟩
      ·have l12 := haft ⟨12, .data⟩ (by simp) rfl
       obtain rfl := h12 l12
       clear haft
       go_simp
       exact hK.out _ _ ⟨_, _, _, _, _, _, _, _, _, _, _, _, _, _, rfl, zh HF.out.p13, h0, h1, h2, h3, h4, h5, h6, h7, h12, fun _ => rfl⟩
      ·have l13 := haft ⟨13, .data⟩ (by simp) rfl
       have l11 := haft ⟨11, .data⟩ (by simp) rfl
       obtain rfl := h13 l13
       obtain ⟨g, gg, cap, rfl, f1, f2, f3⟩ := HF.out.d l11 hL
       have hmk' : w'.heap[mk]? = some (.cells (mkC gf nw mp gst (.slice A1 p c1) (fun _ => pv 0) (.slice none 0 0)).toArray 108 (0, 0)) := (f3.block mk (lt_of_heap HNM.out.blk) (fun e => by obtain ⟨_, c', h⟩ := own_ty HO.out e.symm; rw [HNM.out.blk] at h; injection h with h; injection h with _ h; cases h)).trans HNM.out.blk
       have cq : w'.cell? ⟨mk, 1, none⟩ = some (.slice A1 p c1) := by rw [Lib.cell_of_heap hmk']; exact mkC_1 gf nw mp gst (.slice A1 p c1) (fun _ => pv 0) (.slice none 0 0)
       have fq := Lib.frozen_of_heap hmk' 1
       have HF1 := zh (HF.out.s14 l11 f1 f2 f3)
       clear haft f1 f2 f3 hmk'
       go_simp
       exact hK.out _ _ ⟨_, _, _, _, _, _, _, _, _, _, _, _, _, _, rfl, HF1, h0, h1, h2, h3, h4, h5, h6, h7, h12, h13⟩
     case finQ =>
      rintro L a w' ⟨v50, v51, v52, v53, v54, v55, v56, v57, v58, v59, v60, v61, v62, v63, rfl, HF, h0, h1, h2, h3, h4, h5, h6, h7, h12, h13⟩ hall
      obtain ⟨g, gg, cap, w6, hw', f1, f2, f3⟩ := HF.out.e (hall 14 (by decide))
      subst hw'
      have f3' := f3.from_drew
      have hbo : ∀ i, some i = (Value.slice A1 p c1).ownBlock → mk < i := fun i e => (own_ty HO.out e.symm).1
      have hN6 := HNM.out.keep f3' (fun i e => .inr (hbo i e))
      obtain ⟨vn, hvn⟩ : ∃ vn, vn = Value.slice (some ⟨gg, 0, none⟩) (p + 1) cap := ⟨_, rfl⟩
      rw [← hvn] at f1 ⊢
      have hkc := Kb.setCell w6 ⟨mk, 1, none⟩ vn
      have hb7 := mk_put (i := 1) vn hN6.blk
      rw [mkC_set1] at hb7
      have HN7 := zh (hN6.put hkc hb7)
      have HF7 := zh ((HFI.out.keep f3' (fun e => by have := hbo _ e; omega)).keep hkc (fun e => by have e : gf = mk := e; omega))
      have HO7 : Hid ((w6.setCell ⟨mk, 1, none⟩ vn).ownsRow (mk + 1) 87 1 vn (p + 1) ((List.range (p + 1)).map fun j => bsV (if j = p then g else gs j) nw)) := zh (by
       have h1 := own_kb f1 hkc (fun g hg e => by have e : g = mk := e; have := (own_ty f1 hg).1; omega)
       rw [show (List.range (p + 1)).map (fun j => bsV (if j = p then g else gs j) nw) = ((List.range p).map fun j => bsV (gs j) nw) ++ [bsV g nw] by
        rw [List.range_succ, List.map_append, List.map_singleton, if_pos rfl]
        congr 1
        refine List.map_congr_left (fun j hj => ?_)
        rw [if_neg (by have := List.mem_range.1 hj; omega)]]
       exact h1)
      have HG7 : Hid (∀ j < p + 1, BsAt (w6.setCell ⟨mk, 1, none⟩ vn) (if j = p then g else gs j) ((mkM rs).fo j)) := zh (fun j hj => by
       have hty : ∀ x ws, BsAt w6 x ws → BsAt (w6.setCell ⟨mk, 1, none⟩ vn) x ws := fun x ws hx => hx.keep hkc (fun e => by
        have e : x = mk := e
        have h1 := hx.1
        rw [e, hN6.blk] at h1
        injection h1 with h1; injection h1 with _ h1; cases h1)
       by_cases e : j = p
       ·rw [if_pos e, e]; exact hty _ _ f2
       ·rw [if_neg e]
        refine hty _ _ ((HGS.out j (by omega)).keep f3' (fun e => ?_))
        obtain ⟨_, c', h⟩ := own_ty HO.out e.symm
        rw [(HGS.out j (by omega)).1] at h
        injection h with h; injection h with _ h; cases h)
      refine HKR.out _ _ ?_
      clear f1 f2 f3 f3' hbo hN6 hkc hb7 hvn HF HNM HFI HO HGS HD1 HKR HFOL hall
      generalize w6.setCell ⟨mk, 1, none⟩ vn = w7 at *
      go_wp2_with fail
      go_roundw
      case rel => exact ⟨p + 1, vn, _, by omega, by go_num, HN7, HF7, HO7, HG7⟩
      case measure => simp [intOf]; omega
    ·obtain rfl : N = p := by omega
     have hswr := HNM.out.bl.size
     obtain ⟨ga, hga⟩ : ∃ ga, ga = wr.heap.size := ⟨_, rfl⟩
     have hmga : mk < ga := by rw [hga]; exact lt_of_heap HNM.out.blk
     have HGAE := zh hga
     clear hga hp hlp
     generalize wr = wC at *
     go_upto_region 18 with fail
     rw [zc153 (fun _ => 0) nw]
     have hal := (Below.refl _ wC).alloc (Nat.le_refl _) (.cells (hcs (fun _ => 0) nw 0).toArray 153)
     have hax := heap_alloc_new wC (.cells (hcs (fun _ => 0) nw 0).toArray 153)
     rw [← HGAE.out] at hax ⊢
     generalize wC.alloc (.cells (hcs (fun _ => 0) nw 0).toArray 153) = wD at hal hax ⊢
     have HAL := zh hal; have HAX := zh hax
     clear hal hax
     go_wp2_with fail
     go_loopw [65] (fun i wr => ∃ (b : Nat) (gb : Nat → Nat), b ≤ 256 ∧ i = .int .i64 b ∧ Hid (wr.heap[ga]? = some (.cells (hcs gb nw b).toArray 153 (0, 0))) ∧ Hid (∀ j < b, BsAt wr (gb j) (hasW rs j) ∧ ga < gb j) ∧ Hid (Below wC.heap.size wC wr)) (fun i _ => 256 - (intOf i).toNat)
     case atStart => exact ⟨0, fun _ => 0, by omega, rfl, HAX, zh (fun j h => by omega), HAL⟩
     case round =>
      clear HAX HAL
      obtain ⟨b, gb, hb, rfl, HAX, HGB, HBL⟩ := hrel
      by_cases hlb : b < 256
      ·have hbi : (b : Int) < 256 := by omega
       have hb0 : (0 : Int) ≤ b := by omega
       have HNB := zh (bs_new wr N (by omega))
       rw [HNE.out] at HNB
       go_wp2_with fail
       refine HNB.out.mono ?_
       rintro e w2 ⟨rfl, hz, hb2⟩
       obtain ⟨g, hg⟩ : ∃ g, g = wr.heap.size := ⟨_, rfl⟩
       rw [← hg] at hz ⊢
       have hgag : ga < g := by rw [hg]; exact lt_of_heap HAX.out
       have hax2 := (hb2.block ga (lt_of_heap HAX.out)).trans HAX.out
       obtain ⟨v0, c9, f9⟩ := hcs_cell hax2 hlb
       have HG := zh hg
       clear hg HNB
       go_upto_region 22 with fail
       have hkc := Kb.setCell w2 ⟨ga, b, none⟩ (bsV g nw)
       have hax3 : (w2.setCell ⟨ga, b, none⟩ (bsV g nw)).heap[ga]? = some (.cells (hcs (fun j => if j = b then g else gb j) nw (b + 1)).toArray 153 (0, 0)) := by
        rw [set_heap w2 ga b _ _ _ _ hax2, ← hcs_set gb nw b g hlb]; simp
       have hz3 := hz.keep hkc (fun e => by have e : g = ga := e; omega)
       have hgb3 : ∀ j < b, BsAt (w2.setCell ⟨ga, b, none⟩ (bsV g nw)) (gb j) (hasW rs j) ∧ ga < gb j := fun j hj => ⟨((HGB.out j hj).1.below hb2).keep hkc (fun e => by have e : gb j = ga := e; have := (HGB.out j hj).2; omega), (HGB.out j hj).2⟩
       have hbl3 : Below wC.heap.size wC (w2.setCell ⟨ga, b, none⟩ (bsV g nw)) := (HBL.out.trans (hb2.mono HBL.out.size)).trans (hkc.below (Nat.le_trans HBL.out.size hb2.size) (fun i e => by rw [show i = ga from e, HGAE.out]; exact Nat.le_refl _))
       have hgb4 : ∀ j < b, gb j < g := fun j hj => by have := lt_of_heap (HGB.out j hj).1.1; have := HG.out; omega
       have HAX3 := zh hax3; have HZ3 := zh hz3; have HGB3 := zh hgb3; have HBL3 := zh hbl3; have HGB4 := zh hgb4
       clear hz hb2 hax2 c9 f9 hkc hax3 hz3 hgb3 hbl3 hgb4 HAX HGB HBL
       generalize w2.setCell ⟨ga, b, none⟩ (bsV g nw) = w3 at *
       have hcb : (UInt8.ofNat b).toNat = b := by simp; omega
       go_wp2_with fail
       go_loopw [73] (fun i wr => ∃ (p : Nat) (us : List Nat), p ≤ N ∧ i = .int .i64 p ∧ Hid (BsAt wr g us ∧ us.length = nw ∧ ∀ q, bt us q = (decide (q < p) && hsS rs q (UInt8.ofNat b))) ∧ Hid (Kb (fun i => i = g) w3 wr)) (fun i _ => N - (intOf i).toNat)
       case atStart => exact ⟨0, _, Nat.zero_le _, rfl, zh ⟨HZ3.out, by simp, fun q => by rw [bt_none]; simp⟩, zh (Kb.refl _ _)⟩
       case round =>
        clear HZ3
        obtain ⟨p, us, hp, rfl, HU, HK⟩ := hrel
        by_cases hlp : p < N
        ·have hpi : (p : Int) < N := by omega
         have hp0 : (0 : Int) ≤ p := by omega
         have hbw : Below w.heap.size w wr := (HNM.out.bl.trans (HBL3.out.mono hswr)).trans (HK.out.below (Nat.le_trans hswr HBL3.out.size) (fun i e => by rw [show i = g from e]; have := HGAE.out; omega))
         have HY := zh (has_yes wr Bm mb rs (HM.out.below hbw) p (by rw [← HN.out]; exact hlp) (UInt8.ofNat b))
         rw [hcb] at HY
         obtain ⟨hu1, hu2, hu3⟩ := HU.out
         have hax := (HK.out.block ga (lt_of_heap HAX3.out) (fun e => by have e : ga = g := e; omega)).trans HAX3.out
         have ca := hcs_at hax (show b < b + 1 by omega) (by omega)
         rw [if_pos rfl] at ca
         have HU2 := zh hu2; have HU3 := zh hu3
         obtain ⟨β, hβ⟩ : ∃ β, β = hsS rs p (UInt8.ofNat b) := ⟨_, rfl⟩
         rw [← hβ] at HY
         have HBE := zh hβ
         clear hβ hbw hax HU
         cases β with
         | true =>
          have hqd : p / 64 < us.length := by rw [hu2, HNW.out]; exact nwd_div hlp
          have HE := zh (bs_add wr g p nw us hu1 hu2.symm hqd (by omega))
          have HBA := zh (fun q => bt_add us p q hqd)
          have HSL := zh (show (us.set (p / 64) (us[p / 64] ||| 2 ^ (p % 64))).length = nw by rw [List.length_set]; exact hu2)
          generalize us.set (p / 64) (us[p / 64] ||| 2 ^ (p % 64)) = us2 at HE HBA HSL
          clear hu1 hu2 hu3 hqd
          go_wp2_with (first
           | (go_at_call 22; refine HY.out.mono ?_; rintro e w4 ⟨rfl, hw4⟩; rw [hw4]; clear hw4)
           | (go_at_call 85; refine HE.out.mono ?_; rintro e w5 ⟨rfl, h1, h2⟩; have H1 := zh h1; have H2 := zh h2; clear h1 h2))
          have HU5 : Hid (BsAt w5 g us2 ∧ us2.length = nw ∧ ∀ q, bt us2 q = (decide (q < p + 1) && hsS rs q (UInt8.ofNat b))) := zh ⟨H1.out, HSL.out, fun q => by
           rw [HBA.out q, HU3.out q]
           by_cases e : q = p
           ·subst e; rw [← HBE.out]; simp
           ·have : decide (q < p + 1) = decide (q < p) := by
             rw [decide_eq_decide]; omega
            rw [this]; simp [e]⟩
          have HK5 := zh (HK.out.trans H2.out (fun i _ hi => hi))
          clear HY HE HBA HSL H1 H2 HK HU3
          go_roundw
          case rel => exact ⟨p + 1, us2, by omega, by go_num, HU5, HK5⟩
          case measure => simp [intOf]; omega
         | false =>
          have HU5 : Hid (BsAt wr g us ∧ us.length = nw ∧ ∀ q, bt us q = (decide (q < p + 1) && hsS rs q (UInt8.ofNat b))) := zh ⟨hu1, hu2, fun q => by
           rw [hu3 q]
           by_cases e : q = p
           ·subst e; rw [← HBE.out]; simp
           ·have : decide (q < p + 1) = decide (q < p) := by
             rw [decide_eq_decide]; omega
            rw [this]⟩
          clear hu1 hu2 hu3 HU3
          go_wp2_with (first
           | (go_at_call 22; refine HY.out.mono ?_; rintro e w4 ⟨rfl, hw4⟩; rw [hw4]; clear hw4))
          go_roundw
          case rel => exact ⟨p + 1, us, by omega, by go_num, HU5, HK⟩
          case measure => simp [intOf]; omega
        ·obtain rfl : N = p := by omega
         obtain ⟨hu1, hu2, hu3⟩ := HU.out
         have huw : us = hasW rs b := wds_of (by rw [hu2, HNW.out, HN.out]) hu1.2 (fun q => by rw [hu3 q, HN.out]; simp)
         rw [huw] at hu1
         have HG5 : Hid (∀ j < b + 1, BsAt wr (if j = b then g else gb j) (hasW rs j) ∧ ga < (if j = b then g else gb j)) := zh (fun j hj => by
          by_cases e : j = b
          ·rw [if_pos e, e]; exact ⟨hu1, hgag⟩
          ·rw [if_neg e]
           have h1 := HGB3.out j (by omega)
           refine ⟨h1.1.keep HK.out (fun e => ?_), h1.2⟩
           have e : gb j = g := e
           have := HGB4.out j (by omega)
           omega)
         have HA5 := zh ((HK.out.block ga (lt_of_heap HAX3.out) (fun e => by have e : ga = g := e; omega)).trans HAX3.out)
         have HB5 := zh (HBL3.out.trans (HK.out.below HBL3.out.size (fun i e => by rw [show i = g from e]; have := HGAE.out; omega)))
         clear hu1 hu2 hu3 huw HU HK HAX3 HGB3 HBL3 HGB4
         go_wp2_with fail
         refine ⟨⟨b + 1, _, by omega, by go_num, HA5, HG5, HB5⟩, ?_⟩
         simp [intOf]; omega
      ·obtain rfl : b = 256 := by omega
       generalize wr = wE at *
       have HGR := zh (grouped_93 wE ga (colH rs) (fun b hb w' hbw => has_text w' ga (gb b) nw b (hasW rs b) (cell_below hbw (hcs_at HAX.out hb (Nat.le_refl _))) ((HGB.out b hb).1.below hbw) (by rw [HNW.out, HN.out]; exact wds_len _ _) (by omega) hb))
       have hkn2 : (seen (colH rs) 256).length ≤ 256 := seen_len (colH rs) 256
       obtain ⟨KC, hKC⟩ : ∃ KC, KC = gcs (colH rs) 256 := ⟨_, rfl⟩
       have HKF0 : Hid (KC = (List.range 256).map (kf rs)) := zh (hKC.trans (gcs_kf rs))
       have HKL : Hid (KC.toArray.size = 256) := zh (by rw [hKC]; simp [gcs_len])
       have HK1 : Hid (∀ v ∈ KC, v.oneCell' = true) := zh (by rw [hKC]; exact gcs_one (colH rs) 256)
       rw [← hKC] at HGR
       clear hKC
       obtain ⟨kn, hkn⟩ : ∃ kn, kn = (seen (colH rs) 256).length := ⟨_, rfl⟩
       have HKN := zh hkn
       rw [← hkn] at HGR hkn2
       clear hkn
       go_upto_region 31 with (first
        | (go_at_call 66; refine HGR.out.mono ?_; rintro e w2 ⟨rfl, hb2⟩; have HNM2 := zh (HNM.out.below (HBL.out.trans (hb2.mono HBL.out.size))); have HB2 := zh hb2; clear hb2)
        | (refine wpList_store_mid rfl 101 _ _ rfl mk 2 KC.toArray rfl rfl (by rw [HKL.out]; exact mkC_there HNM2.out.blk) (by rw [Tryz.size101, HKL.out]) (all_oneCell_toArray HK1.out) ?_))
       have hk3 := kb_setCells mk KC 2 w2
       have hb3 : (w2.setCells mk 2 KC).heap[mk]? = some (.cells (mkC gf nw mp gst (.slice A1 N c1) (kf rs) (.slice none 0 0)).toArray 108 (0, 0)) := by rw [HKF0.out]; exact mkC_kinds HNM2.out.blk
       have HNM3 := zh (HNM2.out.put hk3 hb3)
       have HK3 := zh ((Kb.of_below (fun i => i = mk) HB2.out).trans hk3 (fun _ _ h => h))
       have hsz3 : ga < (w2.setCells mk 2 KC).heap.size := Nat.lt_of_lt_of_le (lt_of_heap HAX.out) HK3.out.size
       clear HNM2 hk3 hb3 HGR HB2
       generalize w2.setCells mk 2 KC = w3 at *
       go_upto_region 32 with (at_make; refine wpList_make_row _ rfl _ _ 76 rfl 87 i0 (.slice none 0 0) Tryz.underlying76 HI.out HZ0.out HZ1.out rfl .i64 .i64 kn rfl rfl (by rw [HZ2.out]; omega) (by omega) ?_; obtain ⟨_, _, e258, hfz⟩ := (HNM3.out.below ((Below.refl _ w3).alloc (Nat.le_refl _) (.cells (madeCells #[.slice none 0 0] kn) 87))).cell; have f258 := hfz 258; clear hfz)
       obtain ⟨gh, hgh⟩ : ∃ gh, gh = w3.heap.size := ⟨_, rfl⟩
       have hx4 := heap_alloc_new w3 (.cells (madeCells #[.slice none 0 0] kn) 87)
       have hal4 := (Below.refl _ w3).alloc (Nat.le_refl _) (.cells (madeCells #[.slice none 0 0] kn) 87)
       rw [show madeCells #[.slice none 0 0] kn = (List.replicate kn (Value.slice none 0 0)).toArray by
        apply Array.toList_inj.1
        rw [toList_madeCells_one]] at hx4 hal4 ⊢
       rw [← hgh] at hx4 ⊢
       have HGH := zh hgh
       clear e258 f258 hgh
       generalize w3.alloc (.cells (List.replicate kn (Value.slice none 0 0)).toArray 87) = w4 at hx4 hal4 ⊢
       have hN4 := HNM3.out.below hal4
       have hkc4 := Kb.setCell w4 ⟨mk, 258, none⟩ (.slice (some ⟨gh, 0, none⟩) kn kn)
       have hb4 := mk_put (i := 258) (.slice (some ⟨gh, 0, none⟩) kn kn) hN4.blk
       rw [mkC_set2] at hb4
       have HN5 := zh (hN4.put hkc4 hb4)
       have hghm : mk < gh := by have := HGH.out; have := lt_of_heap HNM3.out.blk; omega
       have hghw : wE.heap.size ≤ gh := by have := HGH.out; have := HK3.out.size; omega
       have hx5 := (hkc4.block gh (lt_of_heap hx4) (fun e => by have e : gh = mk := e; omega)).trans hx4
       have HX5 := zh hx5
       have HK5 := zh ((HK3.out.trans (Kb.of_below (fun i => i = mk) hal4) (fun _ _ h => h)).trans hkc4 (fun _ _ h => h))
       clear hx4 hal4 hN4 hkc4 hb4 hx5 HNM3 HK3
       generalize w4.setCell ⟨mk, 258, none⟩ (.slice (some ⟨gh, 0, none⟩) kn kn) = w5 at *
       have HRG := zh (mkC_range HN5.out.blk)
       rw [← HKF0.out] at HRG
       go_wp2_with (refine wpList_load_mid rfl 101 _ rfl mk 2 rfl KC _ HRG.out Tryz.underlying101 rfl (by rw [← List.size_toArray, HKL.out]; exact Tryz.size101) ?_)
       go_loopw [105] (fun i wr => ∃ (b : Nat) (cs : List Value), b ≤ 256 ∧ i = .int .i64 b ∧ Hid (wr.heap[gh]? = some (.cells cs.toArray 87 (0, 0))) ∧ cs.length = kn ∧ Hid (∀ j < b, ∃ j' < 256, knd rs j' = knd rs j ∧ cs[knd rs j]? = some (bsV (gb j') nw)) ∧ Hid (Kb (fun i => i = gh) w5 wr)) (fun i _ => 256 - (intOf i).toNat)
       case atStart => exact ⟨0, _, by omega, rfl, HX5, by simp, zh (fun j h => by omega), zh (Kb.refl _ _)⟩
       case round =>
        clear HX5
        obtain ⟨b, cs, hb, rfl, HX, hcl, HC, HK⟩ := hrel
        have HN6 := zh (HN5.out.keep HK.out (fun i e => .inr (by rw [show i = gh from e]; exact hghm)))
        by_cases hlb : b < 256
        ·have hbi : (b : Int) < 256 := by omega
         have hb0 : (0 : Int) ≤ b := by omega
         have hkb : KC[b]? = some (pv (knd rs b)) := by
          rw [HKF0.out]
          have : kf rs b = pv (knd rs b) := by unfold kf; rw [if_pos hlb]; rfl
          simp [hlb, this]
         have hkl : knd rs b < kn := by rw [HKN.out]; exact knd_lt rs hlb
         have hidx := idx101 wr KC b _ hlb hkb
         obtain ⟨kd, hkd⟩ : ∃ kd, kd = knd rs b := ⟨_, rfl⟩
         rw [← hkd] at hidx hkl
         have HKD := zh hkd
         clear hkb hkd
         obtain ⟨_, _, e258, _⟩ := HN6.out.cell
         have hga5 : wr.heap[ga]? = some (.cells (hcs gb nw 256).toArray 153 (0, 0)) := (HK.out.block ga (lt_of_heap ((HK5.out.block ga (lt_of_heap HAX.out) (fun e => by have e : ga = mk := e; omega)).trans HAX.out)) (fun e => by have e : ga = gh := e; have := lt_of_heap HAX.out; omega)).trans ((HK5.out.block ga (lt_of_heap HAX.out) (fun e => by have e : ga = mk := e; omega)).trans HAX.out)
         have ca := hcs_at hga5 hlb (Nat.le_refl _)
         have cg : wr.cell? ⟨gh, kd, none⟩ = some (cs[kd]'(by omega)) := by
          rw [Lib.cell_of_heap HX.out]
          have : kd < cs.length := by omega
          simp [this]
         have fg := Lib.frozen_of_heap HX.out kd
         generalize cs[kd]'(by omega) = vg at cg
         have hkdi : (kd : Int) < kn := by omega
         have hkd0 : (0 : Int) ≤ kd := by omega
         clear hga5
         go_wp2_with fail
         go_region
         have hkc := Kb.setCell wr ⟨gh, kd, none⟩ (bsV (gb b) nw)
         have hx7 : (wr.setCell ⟨gh, kd, none⟩ (bsV (gb b) nw)).heap[gh]? = some (.cells (cs.set kd (bsV (gb b) nw)).toArray 87 (0, 0)) := by
          rw [set_heap wr gh kd _ _ _ _ HX.out]; simp
         have HX7 : Hid ((wr.setCell ⟨gh, kd, none⟩ (bsV (gb b) nw)).drew.heap[gh]? = some (.cells (cs.set kd (bsV (gb b) nw)).toArray 87 (0, 0))) := zh hx7
         have HK7 := zh (HK.out.trans hkc (fun _ _ h => h)).drew
         have HC7 : Hid (∀ j < b + 1, ∃ j' < 256, knd rs j' = knd rs j ∧ (cs.set kd (bsV (gb b) nw))[knd rs j]? = some (bsV (gb j') nw)) := zh (fun j hj => by
          by_cases e : knd rs j = kd
          ·exact ⟨b, hlb, by rw [e, HKD.out], by rw [e, List.getElem?_set_self (by omega)]⟩
          ·have hjb : j < b := by
            rcases Nat.lt_or_ge j b with h | h
            ·exact h
            ·obtain rfl : j = b := by omega
             exact absurd HKD.out.symm e
           obtain ⟨j', h1, h2, h3⟩ := HC.out j hjb
           exact ⟨j', h1, h2, by rw [List.getElem?_set_ne (fun h => e h.symm)]; exact h3⟩)
         have hcl7 : (cs.set kd (bsV (gb b) nw)).length = kn := by rw [List.length_set]; exact hcl
         clear hkc hx7 hidx ca cg fg e258 HX HC HK HN6
         generalize cs.set kd (bsV (gb b) nw) = cs7 at *
         generalize (wr.setCell ⟨gh, kd, none⟩ (bsV (gb b) nw)).drew = w7 at *
         go_wp2_with fail
         go_roundw
         case rel => exact ⟨b + 1, cs7, by omega, by go_num, HX7, hcl7, HC7, HK7⟩
         case measure => simp [intOf]; omega
        ·obtain rfl : b = 256 := by omega
         have HCC := zh hcl
         clear hcl
         go_wp2_with fail
         go_ret
         have hN := HN6.out
         have hNE := HNM.out.below HBL.out
         have hmkl := lt_of_heap hN.blk
         have hghl := lt_of_heap HX.out
         have hlo := hN.lo
         have e1 : (mkM rs).nw = nw := by rw [HNW.out, HN.out]; rfl
         have e2 : (mkM rs).N = N := HN.out.symm
         have e3 : (mkM rs).kn = kn := HKN.out.symm
         have hfw : ∀ (x : Nat) (ws : List Nat), BsAt wE x ws → BsAt wr x ws := fun x ws hx => (hx.keep HK5.out (fun e => by
          have e : x = mk := e
          have h1 := hx.1
          rw [e, hNE.blk] at h1
          injection h1 with h1; injection h1 with _ h1; cases h1)).keep HK.out (fun e => by
          have e : x = gh := e
          have := lt_of_heap hx.1
          omega)
         have hSb : ∀ (x : Nat) (ws : List Nat), BsAt wE x ws → x < wr.heap.size ∧ x ≠ mk ∧ x ≠ mp ∧ x ≠ gst := fun x ws hx => by
          refine ⟨lt_of_heap (hfw x ws hx).1, fun e => ?_, fun e => ?_, fun e => ?_⟩
          ·have h1 := hx.1
           rw [e, hNE.blk] at h1
           injection h1 with h1; injection h1 with _ h1; cases h1
          ·obtain ⟨es, clock, hb, _⟩ := hNE.map
           have h1 := hx.1
           rw [e, hb] at h1; cases h1
          ·have h1 := hx.1
           rw [e, hNE.st] at h1
           injection h1 with h1; injection h1 with _ h1; cases h1
         have hOE := own_kb HO.out (Kb.of_below (fun _ => False) HBL.out) (fun _ _ h => h)
         have hOr := own_kb (own_kb hOE HK5.out (fun g hg e => by have e : g = mk := e; have := (own_ty hOE hg).1; omega)) HK.out (fun g hg e => by
          have e : g = gh := e
          obtain ⟨_, c', h⟩ := own_ty hOE hg
          have := lt_of_heap h
          omega)
         have hkf : ∀ j < 256, kf rs j = pv (knd rs j) := fun j hj => by unfold kf; rw [if_pos hj]; rfl
         refine ⟨mk, mp, gf, gh, c1, kn, A1, mkC gf nw mp gst (.slice A1 N c1) (kf rs) (.slice (some ⟨gh, 0, none⟩) kn kn), .slice (some ⟨gst, 0, none⟩) 1 1, fun i => i < wr.heap.size ∧ i ≠ mk ∧ i ≠ mp ∧ i ≠ gst, rfl, ?mks, ?mkd, mkC_261 .., fun i h => h.1, fun h => h.2.1 rfl, fun h => h.2.2.1 rfl, fun g hg h => h.2.2.2 (by simpa [Value.ownBlock] using hg.symm), by omega, by omega, hN.bl, fun j hj => by rw [mkC_b _ _ _ _ _ _ _ hj, hkf j hj]⟩
         case mks =>
          refine ⟨rfl, by rw [e2]; exact hN2, by rw [e3]; exact hkn2, by rw [e1]; rfl, ⟨by omega, by omega, by omega, by omega⟩, hfw gf _ (HFI.out.below HBL.out), wds_len _ _, fun q hq => FsS.lt ((bt_fi rs q).1 hq), by rw [e2]; rfl, fun p hp => ?_, fun p hp q hq => ?_, by rw [e3]; exact mkC_258 .., fun k hk => ?_⟩
          ·rw [e2] at hp
           obtain ⟨fg, hfg, hcl, _, _⟩ := own_cells hOr (by omega)
           subst hfg
           obtain ⟨hb1, c', hb2⟩ := own_ty hOr (g := fg) rfl
           have hlf := lt_of_heap hb2
           have hbs := (HGS.out p hp).below HBL.out
           exact ⟨fg, gs p, rfl, ⟨hlf, by omega, by omega, by omega⟩, hSb _ _ hbs, by rw [e1]; exact hcl p _ (by simp [hp]), hfw _ _ hbs, wds_len _ _⟩
          ·have h1 : bt (wds (cntS rs) fun q => folS rs 0 p q) q = true := hq
           rw [bt_wds, Bool.and_eq_true, decide_eq_true_eq] at h1
           exact h1.1
          ·have hk' : k < (seen (colH rs) 256).length := hk
           obtain ⟨j, hj, hjk⟩ := grp_surj (colH rs) hk'
           have hjk : knd rs j = k := hjk
           obtain ⟨j', h1, h2, h3⟩ := HC.out j hj
           rw [hjk] at h2 h3
           have hbs := (HGB.out j' h1).1
           refine ⟨⟨hghl, by omega, by omega, by omega⟩, gb j', hSb _ _ hbs, ?_, ?_, hs_len rs k⟩
           ·rw [e1, Lib.cell_of_heap HX.out]; simpa using h3
           ·rw [← h2, hs_knd rs h1]; exact hfw _ _ hbs
         case mkd =>
          rw [e1]
          refine ⟨hN.blk, mkC_259 .., mkC_260 .., ⟨fun _ => none, hN.map, fun t => by simp⟩, ⟨[bsV g0 nw], ⟨rfl, .inr ⟨gst, 1, #[bsV g0 nw], rfl, by omega, hN.st, Nat.le_refl _, by decide, rfl, rfl⟩⟩, fun i ws hi => ?_⟩, fun s h => (by cases h), fun s h => (by cases h)⟩
          rcases i with _ | i
          ·simp at hi
           subst hi
           exact ⟨g0, rfl, hN.z0⟩
          ·simp at hi
end Go.Proofs.YtejdfpieblkapaaGreatDoor
