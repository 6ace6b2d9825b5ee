/- What each state accepts. -/
import Derived.Test.YtejdfpieblkapaaGreatDoorH5
import Derived.Test.YtejdfpieblkapaaGreatDoorG40
namespace Go.Proofs.YtejdfpieblkapaaGreatDoor
open Lib renaming hid → zh
open Go.RowKit Go.Shelf

def acs (os : Nat → Option Nat) (n k : Nat) : List Value := (List.range n).map fun i => if i < k then av (os i) else pv 0
theorem acs_len (os : Nat → Option Nat) (n k : Nat) : (acs os n k).length = n := by simp [acs]
theorem acs_all (os : Nat → Option Nat) (n : Nat) : acs os n n = (List.range n).map fun i => av (os i) := by
 unfold acs
 refine List.map_congr_left (fun i hi => ?_)
 rw [if_pos (by simpa using hi)]
theorem acs_zero (os : Nat → Option Nat) (n : Nat) : acs os n 0 = List.replicate n (pv 0) := by
 apply List.ext_getElem?
 intro i
 unfold acs
 rw [List.getElem?_replicate]
 by_cases h : i < n
 ·simp [h]
 ·rw [if_neg h, List.getElem?_eq_none (by simp; omega)]
theorem acs_set (os : Nat → Option Nat) (n k : Nat) (hk : k < n) (o : Option Nat) : (acs os n k).set k (av o) = acs (fun i => if i = k then o else os i) n (k + 1) := by
 apply List.ext_getElem?
 intro i
 unfold acs
 rcases Nat.lt_or_ge i n with h1 | h1
 ·by_cases h : i = k
  ·subst h
   rw [List.getElem?_set_self (by simp; omega)]
   simp [h1]
  ·rw [List.getElem?_set_ne (fun e => h e.symm)]
   simp only [List.getElem?_map, List.getElem?_range h1, Option.map_some]
   by_cases h2 : i < k
   ·rw [if_pos h2, if_pos (by omega), if_neg h]
   ·rw [if_neg h2, if_neg (by omega)]
 ·rw [List.getElem?_eq_none (by simp; omega), List.getElem?_eq_none (by simp; omega)]
set_option maxRecDepth 100000 in
set_option maxHeartbeats 2000000 in
theorem accepted_any (w : World) (B mb mk n5 c5 g5 nw : Nat) (rs : List Rx) (ps : Nat → List Nat) (h : MsAt w B mb rs) (hR : rs.length ≤ 1000) (hT : TabH w) (hnw : nw = nwd (cntS rs)) (hc2 : cntS rs ≤ 2000)
  (e5 : w.cell? ⟨mk, 260, none⟩ = some (.slice (some ⟨g5, 0, none⟩) n5 c5)) (hn5 : n5 ≤ 100000)
  (hp : ∀ i < n5, ∃ gp, w.cell? ⟨g5, i, none⟩ = some (bsV gp nw) ∧ BsAt w gp (ps i) ∧ (ps i).length = nw ∧ ∀ q, bt (ps i) q = true → q < cntS rs) :
  Calls Tryz.prog 65 #[ptr mk, ptr mb] w fun e w' => ∃ (g : Nat) (os : Nat → Option Nat) (us : List Nat), e = .returned (.slice (some ⟨g, 0, none⟩) n5 n5) ∧ w'.heap[g]? = some (.cells ((List.range n5).map fun i => av (os i)).toArray 3 (0, 0)) ∧ w.heap.size ≤ g ∧
   (∀ q, bt us q = true ↔ ∃ (i : Nat) (l : List Nat), (lstS rs 0)[i]? = some l ∧ q ∈ l) ∧ (∀ i < n5, LrA rs (ps i) us (os i)) ∧ Below w.heap.size w w' := by
 have HM := zh h; have HT := zh hT; have HNW := zh hnw; have HP := zh hp; have E5 := zh e5
 obtain ⟨N, hN⟩ : ∃ N, N = cntS rs := ⟨_, rfl⟩
 obtain ⟨R, hRe⟩ : ∃ R, R = rs.length := ⟨_, rfl⟩
 have HL := zh (len_ms w B mb rs h)
 have HNEW := zh (bs_new w N (by omega))
 rw [show (N + 63) / 64 = nw by rw [hnw, hN]] at HNEW
 rw [← hN] at HL
 have HN := zh hN; have HRE := zh hRe
 have hN2 : N ≤ 2000 := by omega
 have hR2 : R ≤ 1000 := by omega
 have hnw2 : nw ≤ 100 := by rw [hnw]; show (cntS rs + 63) / 64 ≤ 100; omega
 clear h hT hnw hp e5 hN hRe hc2 hR
 go_enter Tryz.func65, Tryz.ntmps65
 go_wp2_with fail
 refine HL.out.mono ?_
 rintro e w1 ⟨rfl, rfl⟩
 go_wp2_with fail
 refine HNEW.out.mono ?_
 rintro e w2 ⟨rfl, hz, hb2⟩
 obtain ⟨ge, hge⟩ : ∃ ge, ge = w1.heap.size := ⟨_, rfl⟩
 rw [← hge] at hz ⊢
 have HGE := zh hge
 have HZ := zh hz; have HB2 := zh hb2
 have HRU := zh (rules_ms w2 B mb rs (HM.out.below hb2))
 rw [← HRE.out] at HRU
 clear hge hz hb2 HL HNEW
 go_wp2_with fail
 refine HRU.out.mono ?_
 rintro e w3 ⟨rfl, hw3⟩
 rw [hw3]
 clear hw3 HRU
 go_wp2_with fail
 go_loopw [17] (fun i wr => ∃ k : Nat, k ≤ R ∧ i = .int .i64 k ∧ Hid (Below w1.heap.size w1 wr) ∧ ∃ us, Hid (BsAt wr ge us ∧ us.length = nw ∧ ∀ q, bt us q = true ↔ ∃ (i : Nat) (l : List Nat), i < k ∧ (lstS rs 0)[i]? = some l ∧ q ∈ l)) (fun i _ => R - (intOf i).toNat)
 case atStart => exact ⟨0, Nat.zero_le _, rfl, HB2.out, _, HZ.out, by simp, fun q => ⟨fun h => (by rw [bt_none] at h; cases h), fun h => (by obtain ⟨i, l, h, _⟩ := h; omega)⟩⟩
 case round =>
  clear HZ HB2
  obtain ⟨k, hk, rfl, HB, us, HU⟩ := hrel
  by_cases hlt : k < R
  ·have hki : (k : Int) < R := by omega
   have hk0 : (0 : Int) ≤ k := by omega
   obtain ⟨l, hl⟩ : ∃ l, (lstS rs 0)[k]? = some l := ⟨_, List.getElem?_eq_getElem (by rw [lstS_len, ← HRE.out]; exact hlt)⟩
   have HLA := zh (last_any wr B mb rs (HM.out.below HB.out) (by rw [← HRE.out]; exact hR2) k l hl)
   have HLL := zh hl
   clear hl
   go_wp2_with fail
   refine HLA.out.mono ?_
   rintro e w4 ⟨v, rfl, how, hb4⟩
   obtain ⟨A, c, rfl, hcap, hcap2⟩ := own_form how
   obtain ⟨nl, hnl⟩ : ∃ nl, nl = l.length := ⟨_, rfl⟩
   have hnl2 : nl ≤ 2000 := by
    have := (lstS_get HLL.out).2
    rw [← HN.out] at this
    omega
   rw [← hnl] at how ⊢
   have HNL := zh hnl; have HOW := zh how
   obtain ⟨hu1, hu2, hu3⟩ := HU.out
   have hgl := lt_of_heap hu1.1
   have HGL := zh hgl
   have HU4 := zh (hu1.below hb4)
   have HU2 := zh hu2; have HU3 := zh hu3
   have HB4 := zh (HB.out.trans (hb4.mono HB.out.size))
   clear hnl how hu1 hu2 hu3 hb4 HLA HU HB hcap hcap2 hgl
   go_wp2_with fail
   go_loopw [24] (fun i wq => ∃ j : Nat, j ≤ nl ∧ i = .int .i64 j ∧ Hid (BsAt wq ge (puts us (l.take j))) ∧ Hid (Kb (fun i => i = ge) w4 wq)) (fun i _ => nl - (intOf i).toNat)
   case atStart => exact ⟨0, Nat.zero_le _, rfl, HU4.out, Kb.refl _ _⟩
   case round =>
    clear HU4
    obtain ⟨j, hj, rfl, HUJ, HK⟩ := hrel
    by_cases hlj : j < nl
    ·have hji : (j : Int) < nl := by omega
     have hj0 : (0 : Int) ≤ j := by omega
     obtain ⟨q, hq⟩ : ∃ q, l[j]? = some q := ⟨_, List.getElem?_eq_getElem (by rw [← HNL.out]; exact hlj)⟩
     have hrow := own_kb HOW.out HK.out (fun g hg e => by have := (own_ty HOW.out hg).1; have := HGL.out; omega)
     obtain ⟨g, cap, hv, hg1, hg2⟩ := hrow.form (by omega)
     injection hv with hA _ hc
     subst hA
     subst hc
     have cq := hrow.cellAt j (by omega)
     rw [List.getElem?_map, hq] at cq
     have hqm := List.mem_of_getElem? hq
     have hqN := (lstS_own HLL.out q hqm).1
     rw [← HN.out] at hqN
     have hpl : (puts us (l.take j)).length = nw := by rw [puts_len, HU2.out]
     have hqd : q / 64 < nw := by rw [HNW.out, ← HN.out]; exact nwd_div hqN
     have HE := zh (bs_add wr ge q nw _ HUJ.out hpl.symm (by rw [hpl]; exact hqd) (by omega))
     have HPU := zh (show puts us (l.take (j + 1)) = put1 (puts us (l.take j)) q by rw [List.take_add_one, hq]; exact puts_snoc _ _ _)
     have HP1 := zh (put1_eq (puts us (l.take j)) q (by rw [hpl]; exact hqd))
     clear hrow hg1 hg2 hq hqm
     simp only [Option.map_some] at cq
     go_wp2_with fail
     refine HE.out.mono ?_
     rintro e w5 ⟨rfl, h1, h2⟩
     rw [← HP1.out, ← HPU.out] at h1
     have H1 := zh h1; have H2 := zh h2
     clear h1 h2 HE HP1
     go_wp2_with fail
     go_roundw
     case rel => exact ⟨j + 1, by omega, by go_num, H1, HK.out.trans H2.out (fun i _ hi => hi)⟩
     case measure => simp [intOf]; omega
    ·obtain rfl : j = nl := by omega
     have h1 := HUJ.out
     rw [HNL.out, List.take_length] at h1
     have H1 := zh h1
     have HBB := zh (show Below w1.heap.size w1 wr from HB4.out.trans (HK.out.below HB4.out.size (fun i hi => by rw [hi, HGE.out]; exact Nat.le_refl _)))
     have HIF := zh (show ∀ q, bt (puts us l) q = true ↔ ∃ (i : Nat) (l : List Nat), i < k + 1 ∧ (lstS rs 0)[i]? = some l ∧ q ∈ l from fun q => by
      rw [bt_puts us l (fun p hp => by
       have := (lstS_own HLL.out p hp).1
       rw [HU2.out, HNW.out]
       exact nwd_div this), Bool.or_eq_true, HU3.out q, decide_eq_true_eq]
      constructor
      ·rintro (⟨i, l', h1, h2, h3⟩ | h)
       ·exact ⟨i, l', by omega, h2, h3⟩
       ·exact ⟨k, l, by omega, HLL.out, h⟩
      ·rintro ⟨i, l', h1, h2, h3⟩
       rcases Nat.lt_or_ge i k with h4 | h4
       ·exact .inl ⟨i, l', h4, h2, h3⟩
       ·obtain rfl : i = k := by omega
        rw [HLL.out] at h2
        exact .inr (by rw [Option.some.inj h2]; exact h3))
     have HLE := zh (show (puts us l).length = nw by rw [puts_len]; exact HU2.out)
     clear h1 HUJ
     go_wp2_with fail
     refine ⟨⟨k + 1, by omega, by go_num, HBB.out, _, H1.out, HLE.out, HIF.out⟩, ?_⟩
     simp [intOf]; omega
  ·obtain rfl : k = R := by omega
   obtain ⟨hu1, hu2, hu3⟩ := HU.out
   have d5 := cell_below HB.out E5.out
   obtain ⟨i0, hi0, hz0, hz1, hz2⟩ := info_parts Tryz.info3
   have HI := zh hi0; have HZ0 := zh hz0; have HZ1 := zh hz1; have HZ2 := zh hz2
   have HU1 := zh hu1; have HU2 := zh hu2; have HU3 := zh hu3
   clear hi0 hz0 hz1 hz2 hu1 hu2 hu3
   go_upto_region 12 with (at_make; refine wpList_make_row _ rfl _ _ 32 rfl 3 i0 (.int .i64 0) Tryz.underlying32 HI.out HZ0.out HZ1.out rfl .i64 .i64 n5 rfl rfl (by rw [HZ2.out]; omega) (by omega) ?_)
   have hal := (Below.refl _ wr).alloc (Nat.le_refl _) (.cells (madeCells #[.int .i64 0] n5) 3)
   have hrw := heap_alloc_new wr (.cells (madeCells #[.int .i64 0] n5) 3)
   rw [show madeCells #[.int .i64 0] n5 = (acs (fun _ => none) n5 0).toArray by
    apply Array.toList_inj.1
    rw [toList_madeCells_one, acs_zero]; rfl] at hal hrw ⊢
   obtain ⟨g9, hg9⟩ : ∃ g9, g9 = wr.heap.size := ⟨_, rfl⟩
   rw [← hg9] at hrw ⊢
   generalize wr.alloc (.cells (acs (fun _ => none) n5 0).toArray 3) = w6 at hal hrw ⊢
   have d5' := cell_below hal d5
   have HB6 := zh (HB.out.trans (hal.mono HB.out.size))
   have HU6 := zh (HU1.out.below hal)
   have HG9 := zh hg9; have HRW := zh hrw
   have HGG := zh (show w1.heap.size ≤ g9 ∧ ge < g9 from ⟨by rw [hg9]; exact HB.out.size, by rw [hg9]; exact lt_of_heap HU1.out.1⟩)
   clear hal hrw hg9 d5 HU1 HB HU
   go_wp2_with fail
   go_loopw [44] (fun i wq => ∃ (k : Nat) (os : Nat → Option Nat), k ≤ n5 ∧ i = .int .i64 k ∧ Hid (∀ i < k, LrA rs (ps i) us (os i)) ∧ Hid (wq.heap[g9]? = some (.cells (acs os n5 k).toArray 3 (0, 0))) ∧ Hid (Kb (fun i => i = g9) w6 wq)) (fun i _ => n5 - (intOf i).toNat)
   case atStart => exact ⟨0, _, Nat.zero_le _, rfl, (fun i hi => absurd hi (by omega)), HRW.out, Kb.refl _ _⟩
   case round =>
    clear HRW d5'
    obtain ⟨j, os, hj, rfl, HLR, HRW, HK⟩ := hrel
    by_cases hlj : j < n5
    ·have hji : (j : Int) < n5 := by omega
     have hj0 : (0 : Int) ≤ j := by omega
     have hBW : Below w1.heap.size w1 wr := HB6.out.trans (HK.out.below HB6.out.size (fun i hi => by rw [hi]; exact HGG.out.1))
     obtain ⟨gp, p1, p2, p3, p4⟩ := HP.out j hlj
     have p1' := cell_below hBW p1
     have hge : BsAt wr ge us := HU6.out.keep HK.out (fun e => by have := HGG.out.2; omega)
     have HLE := zh (least_any wr B mb gp ge nw rs (ps j) us (HM.out.below hBW) (HT.out.keep (I := fun _ => True) (KeepI.below hBW) trivial) (p2.below hBW) hge p3 HU2.out HNW.out p4 (by rw [← HN.out]; exact hN2))
     clear p1 p2 p3 p4 hge
     go_wp2_with fail
     refine HLE.out.mono ?_
     rintro e w7 ⟨o, rfl, ho, hb7⟩
     have h9 := (hb7.block g9 (lt_of_heap HRW.out)).trans HRW.out
     have c9 : w7.cell? ⟨g9, j, none⟩ = some ((acs os n5 j)[j]'(by rw [acs_len]; exact hlj)) := by
      rw [Lib.cell_of_heap h9]; simp [acs_len, hlj]
     have f9 := Lib.frozen_of_heap h9 j
     have HO := zh ho
     have HB7 := zh hb7
     have H9 := zh (show (w7.setCell ⟨g9, j, none⟩ (av o)).heap[g9]? = some (.cells (acs (fun i => if i = j then o else os i) n5 (j + 1)).toArray 3 (0, 0)) by
      rw [set_heap w7 g9 j _ _ _ _ h9, ← acs_set os n5 j hlj o]; simp)
     generalize (acs os n5 j)[j]'(by rw [acs_len]; exact hlj) = v9 at c9
     clear h9 ho hb7 HLE hBW p1'
     obtain ⟨z, hvo⟩ : ∃ z : Int, av o = .int .i64 z := by cases o <;> exact ⟨_, rfl⟩
     rw [hvo] at H9 ⊢
     clear hvo
     go_wp2_with fail
     go_roundw
     case rel =>
      refine ⟨j + 1, _, by omega, by go_num, ?_, H9.out, (HK.out.trans (Kb.of_below (fun i => i = g9) HB7.out) (fun i _ h => h)).trans (Kb.setCell w7 ⟨g9, j, none⟩ _) (fun i _ h => h)⟩
      intro i hi
      by_cases e : i = j
      ·subst e; rw [if_pos rfl]; exact HO.out
      ·rw [if_neg e]; exact HLR.out i (by omega)
     case measure => simp [intOf]; omega
    ·obtain rfl : j = n5 := by omega
     have h9 := HRW.out
     rw [acs_all] at h9
     have H9 := zh h9
     have HBW := zh (show Below w1.heap.size w1 wr from HB6.out.trans (HK.out.below HB6.out.size (fun i hi => by rw [hi]; exact HGG.out.1)))
     clear h9 HRW
     go_wp2_with fail
     go_ret
     refine ⟨g9, os, us, rfl, H9.out, HGG.out.1, fun q => ?_, HLR.out, HBW.out⟩
     rw [HU3.out q]
     constructor
     ·rintro ⟨i, l, _, h2, h3⟩; exact ⟨i, l, h2, h3⟩
     ·rintro ⟨i, l, h2, h3⟩; exact ⟨i, l, by rw [HRE.out]; exact (lstS_get h2).1, h2, h3⟩
end Go.Proofs.YtejdfpieblkapaaGreatDoor
