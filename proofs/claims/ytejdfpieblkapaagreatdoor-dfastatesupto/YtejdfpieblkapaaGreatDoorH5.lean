/- The least rule that may end at one of some positions. -/
import Derived.Test.YtejdfpieblkapaaGreatDoorH1
import Derived.Test.YtejdfpieblkapaaGreatDoorG36b
import Derived.Test.YtejdfpieblkapaaGreatDoorG36c
import Derived.Test.YtejdfpieblkapaaGreatDoorG35
import Derived.Test.YtejdfpieblkapaaGreatDoorG30
namespace Go.Proofs.YtejdfpieblkapaaGreatDoor
open Lib renaming hid → zh
open Go.RowKit Go.Shelf
attribute [local go_sem] Oper.semAt_some

theorem all_stops_pf (n : Nat) (hn : 1 ≤ n) (Bn g nw : Nat) (ws : List Nat) (I : Nat → Prop) (hI : I g ∧ I 0) (hnw : nw = ws.length) (hlen : nw ≤ 1000000) (w : World) (hBn : Bn < w.heap.size) (hc : w.cell? ⟨Bn, 0, none⟩ = some (bsV g nw)) (hg : BsAt w g ws) (hT : TabH w) :
  SeqStopsK Fence.wide n Tryz.prog 90 #[.pointer (some ⟨Bn, 0, none⟩)] (fun x : {x : Int // x ∈ sbits ws nw} => #[Value.int .i64 x.1]) (KeepI I) (fun ys => ys.map (·.1) = sbits ws nw) (fun ys => ys.map (·.1) <+: sbits ws nw) (sbits ws nw).length w := fun l J Jx W hW hJ _ hY h0 => by
 refine (all_in n hn l Bn g nw ws I hI hnw hlen (fun pre W => ∃ ys : List {x : Int // x ∈ sbits ws nw}, ys.map (·.1) = pre ∧ J ys W) (fun pre W => ∃ ys : List {x : Int // x ∈ sbits ws nw}, ys.map (·.1) = pre ∧ Jx ys W) ?_ W ((hW.cell (p := ⟨Bn, 0, none⟩) hBn).trans hc) (hg.below hW) (hT.keep (I := fun _ => True) (KeepI.below hW) trivial) ⟨[], rfl, h0⟩).mono ?_
 ·rintro pre x W1 ⟨ys, rfl, hJ1⟩ hp
  have hx : x ∈ sbits ws nw := hp.subset (by simp)
  have hlt : ys.length < (sbits ws nw).length := by have := hp.length_le; simp at this; omega
  refine (hY ys ⟨x, hx⟩ W1 hJ1 hlt).mono ?_
  rintro e W' (⟨rfl, h1, h2⟩ | ⟨rfl, h1⟩)
  ·exact .inl ⟨rfl, ⟨ys ++ [⟨x, hx⟩], by simp, h1⟩, h2⟩
  ·exact .inr ⟨rfl, ys ++ [⟨x, hx⟩], by simp, h1⟩
 ·rintro e W' ⟨hv, ⟨xs, rfl, ys, h1, h2⟩ | ⟨pre, hp, ys, h1, h2⟩⟩
  ·exact ⟨hv, .inl ⟨ys, h1, h2⟩⟩
  ·exact ⟨hv, .inr ⟨ys, (by show ys.map (·.1) <+: _; rw [h1]; exact hp), h2⟩⟩

def LrA (rs : List Rx) (at' us : List Nat) (o : Option Nat) : Prop :=
 (o = none ∧ ∀ q, bt at' q = true → bt us q = false) ∨ (∃ q R, o = some R ∧ bt at' q = true ∧ bt us q = true ∧ (∀ p, p < q → bt at' p = true → bt us p = false) ∧ (rlS rs 0)[q]? = some R)

set_option maxRecDepth 100000 in
set_option maxHeartbeats 2000000 in
theorem least_any (w : World) (B mb ga ge nw : Nat) (rs : List Rx) (at' us : List Nat) (h : MsAt w B mb rs) (hT : TabH w) (ha : BsAt w ga at') (he : BsAt w ge us) (hla : at'.length = nw) (hle : us.length = nw) (hnw : nw = nwd (cntS rs)) (hlt : ∀ q, bt at' q = true → q < cntS rs) (hc2 : cntS rs ≤ 2000) :
  Calls Tryz.prog 98 #[ptr mb, bsV ga nw, bsV ge nw] w fun e w' => ∃ o, e = .returned (av o) ∧ LrA rs at' us o ∧ Below w.heap.size w w' := by
 have hb0 : Below w.heap.size w (((w.alloc (.cells #[ptr mb] 28)).alloc (.cells #[bsV ge nw] 87)).alloc (.cells #[.int .i64 0] 3)) := (((Below.refl _ w).alloc (Nat.le_refl _) _).alloc (by simp) _).alloc (by simp; omega) _
 have hs0 : (((w.alloc (.cells #[ptr mb] 28)).alloc (.cells #[bsV ge nw] 87)).alloc (.cells #[.int .i64 0] 3)).heap.size = w.heap.size + 3 := by simp
 have x0 : Boxed (((w.alloc (.cells #[ptr mb] 28)).alloc (.cells #[bsV ge nw] 87)).alloc (.cells #[.int .i64 0] 3)) w.heap.size 28 (ptr mb) := ((Boxed.new w 28 (ptr mb)).alloc _).alloc _
 have x1 : Boxed (((w.alloc (.cells #[ptr mb] 28)).alloc (.cells #[bsV ge nw] 87)).alloc (.cells #[.int .i64 0] 3)) (w.heap.size + 1) 87 (bsV ge nw) := by
  have := Boxed.new (w.alloc (.cells #[ptr mb] 28)) 87 (bsV ge nw)
  rw [show (w.alloc (.cells #[ptr mb] 28)).heap.size = w.heap.size + 1 by simp] at this
  exact this.alloc _
 have x2 : Boxed (((w.alloc (.cells #[ptr mb] 28)).alloc (.cells #[bsV ge nw] 87)).alloc (.cells #[.int .i64 0] 3)) (w.heap.size + 1 + 1) 3 (.int .i64 0) := by
  have := Boxed.new ((w.alloc (.cells #[ptr mb] 28)).alloc (.cells #[bsV ge nw] 87)) 3 (.int .i64 0)
  rwa [show ((w.alloc (.cells #[ptr mb] 28)).alloc (.cells #[bsV ge nw] 87)).heap.size = w.heap.size + 1 + 1 by simp] at this
 have HM := zh h; have HT := zh hT; have HA := zh ha; have HE := zh he; have HLT := zh hlt; have HLA := zh hla; have HLE := zh hle; have HNW := zh hnw
 have hnw2 : nw ≤ 100 := by rw [hnw]; show (cntS rs + 63) / 64 ≤ 100; omega
 clear h hT ha he hlt hla hle hnw
 refine (callsIn_wide (n := 4)).1 ?_
 refine callsIn_of_wp_marks Tryz.func98 rfl trivial ?_ rfl
 simp only [Tryz.ntmps98, List.size_toArray, List.length_cons, List.length_nil, Nat.reduceAdd, Nat.reduceSub, Array.replicate_succ, Array.replicate_zero, List.push_toArray, List.append_toArray, List.nil_append, List.cons_append]
 refine wpIn_wide.2 ?_
 go_upto_region 1 with fail
 generalize ((w.alloc (.cells #[ptr mb] 28)).alloc (.cells #[bsV ge nw] 87)).alloc (.cells #[.int .i64 0] 3) = w3 at hb0 hs0 x0 x1 x2 ⊢
 have hb4 := hb0.alloc hb0.size (.cells #[bsV ga nw] 87)
 have HX3 := zh (Boxed.new w3 87 (bsV ga nw))
 have HX0 := zh (x0.alloc (.cells #[bsV ga nw] 87)); have HX1 := zh (x1.alloc (.cells #[bsV ga nw] 87)); have HX2 := zh (x2.alloc (.cells #[bsV ga nw] 87))
 have HALL := zh (all_any w3 ga nw)
 have HB4 := zh hb4
 have hs4 : (w3.alloc (.cells #[bsV ga nw] 87)).heap.size = w.heap.size + 4 := by simp [hs0]
 rw [hs0] at HX3 HALL
 generalize hw4 : w3.alloc (.cells #[bsV ga nw] 87) = w4 at HX0 HX1 HX2 HX3 HALL HB4 hs4
 clear hb0 hs0 x0 x1 x2 hb4 hw4
 go_wp2_with fail
 refine HALL.out.mono ?_
 rintro e w5 ⟨rfl, hw5⟩
 rw [hw5]
 clear hw5 HALL
 go_wp2_with fail
 refine (wpIn_wide (n := 4)).1 ?_
 refine wpIn_rangeFunc_ownG rfl (by decide) (gf := 90) (lb := #[.pointer (some ⟨w.heap.size + 3, 0, none⟩)]) rfl trivial (enters_of Tryz.func90 (by kernel_rfl) rfl)
  (all_stops_pf (4 - 1) (by decide) (w.heap.size + 3) ga nw at' (fun k => k = ga ∨ k = 0) ⟨.inl rfl, .inr rfl⟩ HLA.out.symm (by omega) w4 (lt_of_heap HX3.out) HX3.out.cell (HA.out.below HB4.out) (HT.out.keep (I := fun _ => True) (KeepI.below HB4.out) trivial)) KeepI.trans (fun W l o o' _ ho hc _ => KeepI.put _ W l o o' ho hc) (Below.refl _ _) (fun _ => rfl)
  (fun pre W => ((∀ y ∈ pre, ∀ q : Nat, y.1 = (q : Int) → bt us q = false) ∧ Boxed W w.heap.size 28 (ptr mb) ∧ Boxed W (w.heap.size + 1) 87 (bsV ge nw) ∧ Boxed W (w.heap.size + 1 + 1) 3 (.int .i64 0)) ∧ Below w.heap.size w W)
  (fun c pre W => (c = .ret ∧ (∃ ini x, ∃ q R : Nat, pre = ini ++ [x] ∧ (∀ y ∈ ini, ∀ q : Nat, y.1 = (q : Int) → bt us q = false) ∧ x.1 = (q : Int) ∧ bt us q = true ∧ (rlS rs 0)[q]? = some R ∧ Boxed W (w.heap.size + 1 + 1) 3 (pv R))) ∧ Below w.heap.size w W)
  (OwnFrom.and (fun pre W W' row hs hg hr => ⟨hs.1, keep_far hg hr hs.2.1, keep_far hg hr hs.2.2.1, keep_far hg hr hs.2.2.2⟩) (ownFrom_below (Nat.le_refl _) (by rw [hs4]; omega)))
  (fun c => OwnFrom.and (fun pre W W' row hs hg hr => ⟨hs.1, by obtain ⟨_, ini, x, q, R, h1, h2, h3, h4, h5, h6⟩ := hs; exact ⟨ini, x, q, R, h1, h2, h3, h4, h5, keep_far hg hr h6⟩⟩) (ownFrom_below (Nat.le_refl _) (by rw [hs4]; omega)))
  ⟨⟨by simp, HX0.out, HX1.out, HX2.out⟩, HB4.out⟩
  (fun x => { tmps := #[ptr mb, bsV ga nw, bsV ge nw, .pointer (some ⟨w.heap.size, 0, none⟩), undef, .pointer (some ⟨w.heap.size + 1, 0, none⟩), .pointer (some ⟨w.heap.size + 1 + 1, 0, none⟩), .int .i64 x.1, bsV ga nw, .func (.func 90) #[] #[.pointer (some ⟨w.heap.size + 3, 0, none⟩)], .int .i64 x.1, undef, undef, undef, undef, undef, undef], defers := [] }) ?assign ?body ?done ?stop
 case assign =>
  intro l x W K hK
  gi_wp2
  exact hK
 case body =>
  rintro l pre ⟨xv, hxm⟩ W ⟨⟨hp, b0, b1, b2⟩, hB⟩ hlt
  obtain ⟨q, rfl, hbq⟩ := (sbits_get HLA.out HA.out.2 xv).1 hxm
  have hqN := HLT.out q hbq
  have hqd : q / 64 < us.length := by rw [HLE.out, HNW.out]; exact nwd_div hqN
  obtain ⟨R, hR⟩ : ∃ R, (rlS rs 0)[q]? = some R := by
   obtain ⟨i, r, h1, h2, h3⟩ := whose hqN
   exact ⟨_, rlS_at h1 h2 h3⟩
  have HC1 := zh (bs_has W ge q nw us (HE.out.below hB) HLE.out.symm hqd (by omega))
  have HC2 := zh (ruleOf_any W B mb rs (HM.out.below hB) q R hqN hR)
  have c0 := b0.cell; have c1 := b1.cell; have c2 := b2.cell; have f2 := b2.frozen
  have HP := zh hp; have HB0 := zh b0; have HB1 := zh b1; have HB2 := zh b2; have HBW := zh hB
  have HR := zh hR
  generalize hxe : (⟨(q : Int), hxm⟩ : {x : Int // x ∈ sbits at' nw}) = xx
  have HXE := zh (show xx.1 = (q : Int) by rw [← hxe])
  obtain ⟨β, hβ⟩ : ∃ β, β = bt us q := ⟨_, rfl⟩
  rw [← hβ] at HC1
  have HBT := zh hβ
  clear hp b0 b1 b2 hB hbq hqd hlt hxe hβ hR
  rw [show xx.1 = (q : Int) from HXE.out]
  cases β with
  | true =>
   gi_wp2_with (first | (refine ⟨trivial, ?_⟩; gi_at_call 56; refine (CallsIn.inRound l (callsIn_wide.2 HC1.out)).mono ?_; rintro e w6 ⟨rfl, rfl⟩) | (refine ⟨trivial, ?_⟩; gi_at_call 21; refine (CallsIn.inRound l (callsIn_wide.2 HC2.out)).mono ?_; rintro e w6 ⟨rfl, rfl⟩))
   exact ⟨(KeepsOthers.setCell _ _ _).from _, ⟨rfl, pre, xx, q, R, rfl, HP.out, HXE.out, HBT.out.symm, HR.out, HB2.out.set _⟩, HBW.out.setCell (p := ⟨w.heap.size + 1 + 1, 0, none⟩) (by simp; omega) _⟩
  | false =>
   gi_wp2_with (first | (refine ⟨trivial, ?_⟩; gi_at_call 56; refine (CallsIn.inRound l (callsIn_wide.2 HC1.out)).mono ?_; rintro e w6 ⟨rfl, rfl⟩) | (refine ⟨trivial, ?_⟩; gi_at_call 21; refine (CallsIn.inRound l (callsIn_wide.2 HC2.out)).mono ?_; rintro e w6 ⟨rfl, rfl⟩))
   refine ⟨(KeepsOthers.refl _).from _, KeepI.refl _ _, ⟨fun y hy p e => ?_, HB0.out, HB1.out, HB2.out⟩, HBW.out⟩
   rcases List.mem_append.1 hy with hy | hy
   ·exact HP.out y hy p e
   ·simp at hy
    rw [hy, HXE.out] at e
    rw [show p = q by omega]; exact HBT.out.symm
 case done =>
  rintro D ys W hD hys ⟨⟨hne, b0, b1, b2⟩, hB⟩ hK
  have c2 := b2.cell; have f2 := b2.frozen
  have HNE := zh (show ∀ q, bt at' q = true → bt us q = false by
   intro q hq
   have h1 : (q : Int) ∈ sbits at' nw := (sbits_get HLA.out HA.out.2 _).2 ⟨q, rfl, hq⟩
   rw [← hys] at h1
   obtain ⟨y, hy, e⟩ := List.mem_map.1 h1
   exact hne y hy q e)
  have hK' := (KeepsOthers.setCell W ⟨w.heap.size + 1 + 1, 0, none⟩ (.int .i64 (-1))).same D _ hK rfl
  have hc5 := cell_kept (World.cell?_setCell_same' W ⟨w.heap.size + 1 + 1, 0, none⟩ (.int .i64 (-1)) (by rw [c2]; rfl)) (grownBy_putObj' _ D (.deferred none)) (fun r e => by cases e; exact ⟨_, hK', rfl⟩)
  have HF := zh (show Below w.heap.size w ((W.setCell ⟨w.heap.size + 1 + 1, 0, none⟩ (.int .i64 (-1))).putObj D (.deferred none)) from (hB.setCell (p := ⟨w.heap.size + 1 + 1, 0, none⟩) (by simp; omega) (.int .i64 (-1))).trans (belowK_b (w := w) (Nat.le_refl _) _ D _ _ (by rw [hs4] at hD; omega) hK' rfl rfl))
  clear hne hys b0 b1 b2 hB
  gi_wp2
  go_wp2
  refine ⟨by simp, .inl ⟨_, _, rfl, run_takeDeferred hK', ?_⟩⟩
  refine ⟨.int .i64 (-1), ?_, none, rfl, .inl ⟨rfl, HNE.out⟩, HF.out⟩
  simp [results, Tryz.results98, go_sem, hc5]
 case stop =>
  rintro D c pre W hD hpre ⟨⟨rfl, ini, x, q, R, rfl, hini, hx, hq, hR, b2⟩, hB⟩ hK
  have c2 := b2.cell; have f2 := b2.frozen
  have hc5 := cell_kept c2 (grownBy_putObj' _ D (.deferred none)) (fun r e => by cases e; exact ⟨_, hK, rfl⟩)
  have HF := zh (show Below w.heap.size w (W.putObj D (.deferred none)) from hB.trans (belowK_b (w := w) (Nat.le_refl _) _ D _ _ (by rw [hs4] at hD; omega) hK rfl rfl))
  have HLR := zh (show LrA rs at' us (some R) by
   have hxm := x.2
   obtain ⟨q', e, hbq⟩ := (sbits_get HLA.out HA.out.2 x.1).1 hxm
   have : q' = q := by omega
   subst this
   refine .inr ⟨q', R, rfl, hbq, hq, fun p hp hbp => ?_, hR⟩
   have h1 : (p : Int) ∈ sbits at' nw := (sbits_get HLA.out HA.out.2 _).2 ⟨p, rfl, hbp⟩
   obtain ⟨t, ht⟩ := hpre
   have hs : (sbits at' nw).Pairwise (· < ·) := by
    rw [sbits_eq]
    exact (nbits_up at' HA.out.2 nw).1.map _ (fun a b h => by exact_mod_cast h)
   rw [← ht] at h1 hs
   rw [List.map_append] at h1 hs
   rcases List.mem_append.1 h1 with h2 | h2
   ·rcases List.mem_append.1 h2 with h3 | h3
    ·obtain ⟨y, hy, e2⟩ := List.mem_map.1 h3
     exact hini y hy p e2
    ·simp at h3
     omega
   ·have := (List.pairwise_append.1 hs).2.2 x.1 (by simp) (p : Int) h2
    omega)
  gi_wp2
  refine ⟨by simp, .inl ⟨_, _, rfl, run_takeDeferred hK, ?_⟩⟩
  refine ⟨.int .i64 R, ?_, some R, rfl, HLR.out, HF.out⟩
  simp [results, Tryz.results98, go_sem, hc5]
end Go.Proofs.YtejdfpieblkapaaGreatDoor
