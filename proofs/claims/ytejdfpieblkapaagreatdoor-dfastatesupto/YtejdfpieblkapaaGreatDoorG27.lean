/- A set's numbers, one by one. -/
import Derived.Test.YtejdfpieblkapaaGreatDoorG24
import Derived.Test.YtejdfpieblkapaaGreatDoorG27a
import Derived.RangeFuncBox
import Derived.RangeFuncNested
import Derived.RangeFuncBound
import Derived.RangeFuncCalls
import Derived.RangeFuncLeaves
import Derived.OwnWalkIn
import Derived.TacticsInMore
import Derived.LoopNIn
import Derived.LoopIn
namespace Go.Proofs.YtejdfpieblkapaaGreatDoor
open Lib renaming hid → zh
open Go.RowKit Go.Shelf

attribute [local go_sem] Oper.semAt_some

def wbits (x : Nat) : List Nat := if h : x = 0 then [] else Lib.ctz 64 x :: wbits (x &&& (x - 1))
termination_by x
decreasing_by exact Nat.lt_of_le_of_lt Nat.and_le_right (by omega)
theorem wbits_zero : wbits 0 = [] := by rw [wbits]; simp
theorem wbits_pos {x : Nat} (h : x ≠ 0) : wbits x = Lib.ctz 64 x :: wbits (x &&& (x - 1)) := by rw [wbits, dif_neg h]
def sbits (ws : List Nat) (k : Nat) : List Int := (List.range k).flatMap fun i => (wbits (ws.getD i 0)).map fun b => ((64 * i + b : Nat) : Int)
theorem sbits_succ (ws : List Nat) (k : Nat) : sbits ws (k + 1) = sbits ws k ++ (wbits (ws.getD k 0)).map fun b => ((64 * k + b : Nat) : Int) := by
 simp [sbits, List.range_succ]
theorem sbits_pre (ws : List Nat) (k m : Nat) (h : k ≤ m) : sbits ws k <+: sbits ws m := by
 induction m with
 | zero =>
  obtain rfl : k = 0 := by omega
  exact List.prefix_refl _
 | succ m ih =>
  by_cases e : k = m + 1
  ·subst e; exact List.prefix_refl _
  ·exact (ih (by omega)).trans (by rw [sbits_succ]; exact List.prefix_append _ _)
def KeepI (I : Nat → Prop) (A B : World) : Prop := ∀ (k : Nat) (c : Array Value) (t : TypeId) (fz : Nat × Nat), I k → A.heap[k]? = some (.cells c t fz) → B.heap[k]? = some (.cells c t fz)
theorem KeepI.refl (I : Nat → Prop) (A : World) : KeepI I A A := fun _ _ _ _ _ h => h
theorem KeepI.trans {I : Nat → Prop} {A B C : World} (h : KeepI I A B) (h' : KeepI I B C) : KeepI I A C := fun k c t fz i e => h' k c t fz i (h k c t fz i e)
theorem KeepI.put (I : Nat → Prop) (W : World) (l : Nat) (o o' : Obj) (ho : W.heap[l]? = some o) (hc : o.isCells = false) : KeepI I W (W.putObj l o') := by
 intro k c t fz _ h
 have hk : k ≠ l := by
  rintro rfl
  rw [ho] at h
  injection h with h
  subst h
  simp [Obj.isCells] at hc
 exact (World.putObj_heap_other hk).trans h
theorem KeepI.below {I : Nat → Prop} {A B : World} (h : Below A.heap.size A B) : KeepI I A B := fun k _ _ _ _ e => (h.block k (Array.getElem?_eq_some_iff.1 e).1).trans e
def TabH (w : World) : Prop := ∃ C t fz, w.heap[0]? = some (.cells C t fz) ∧ ∀ j, j < Lib.deBruijn64tab.length → C[j]? = some (.int .u8 (Lib.deBruijn64tab.getD j 0))
theorem TabH.at {w : World} (h : TabH w) : TabAt 0 Lib.deBruijn64tab w := by
 obtain ⟨C, t, fz, h1, h2⟩ := h
 intro j hj
 rw [Lib.cell_of_heap h1]
 exact h2 j hj
theorem TabH.keep {w w' : World} {I : Nat → Prop} (h : TabH w) (hk : KeepI I w w') (hi : I 0) : TabH w' := by
 obtain ⟨C, t, fz, h1, h2⟩ := h
 exact ⟨C, t, fz, hk 0 C t fz hi h1, h2⟩
theorem tz_any (x : Nat) (hx : x < 18446744073709551616) (w : World) (h : TabH w) : Calls Tryz.prog 91 #[.int .u64 x] w fun e w' => e = .returned (.int .i64 (Lib.ctz 64 x)) ∧ w' = w :=
 Any7.bits_TrailingZeros64 Tryz.tzA x hx w (fun _ => h.at)

set_option maxRecDepth 100000 in
set_option maxHeartbeats 4000000 in
theorem all_in (n : Nat) (hn : 1 ≤ n) (l Bn g nw : Nat) (ws : List Nat) (I : Nat → Prop) (hI : I g ∧ I 0) (hnw : nw = ws.length) (hlen : nw ≤ 1000000) (J Jx : List Int → World → Prop)
  (hY : ∀ pre x W, J pre W → pre ++ [x] <+: sbits ws nw → YieldAt Fence.wide (n - 1) Tryz.prog l #[.int .i64 x] W fun e W' =>
   (e = .returned (.bool true) ∧ J (pre ++ [x]) W' ∧ KeepI I W W') ∨ (e = .returned (.bool false) ∧ Jx (pre ++ [x]) W'))
  (W : World) (hBn : W.cell? ⟨Bn, 0, none⟩ = some (bsV g nw)) (hg : BsAt W g ws) (hT : TabH W) (h0 : J [] W) :
  CallsIn Fence.wide n Tryz.prog 90 #[.func (.yield l) #[] #[], .pointer (some ⟨Bn, 0, none⟩)] W fun e W' => (∃ v, e = .returned v) ∧
   ((∃ ys, ys = sbits ws nw ∧ J ys W') ∨ (∃ pre, pre <+: sbits ws nw ∧ Jx pre W')) := by
 have HY := zh hY; have HG := zh hg; have HT := zh hT; have HI := zh hI; have H0 := zh h0; have HNW := zh hnw
 clear hY hg hT hI h0 hnw
 refine callsIn_of_wp Tryz.func90 rfl trivial ?_ rfl
 simp only [Tryz.ntmps90, List.size_toArray, List.length_cons, List.length_nil, Nat.reduceAdd, Nat.reduceSub, Array.replicate_succ, Array.replicate_zero, List.push_toArray, List.append_toArray, List.nil_append, List.cons_append]
 gi_wp2
 gi_loopw [7] (fun i wr => ∃ k : Nat, k ≤ nw ∧ i = .int .i64 k ∧ Hid (J (sbits ws k) wr) ∧ Hid (KeepI I W wr)) (fun i _ => nw - (intOf i).toNat)
 case atStart => exact ⟨0, Nat.zero_le _, rfl, H0.out, KeepI.refl _ _⟩
 case round =>
  obtain ⟨k, hk, rfl, HJs, HK⟩ := hrel
  by_cases hlt : k < nw
  ·have hki : (k : Int) < nw := by omega
   have hk0 : (0 : Int) ≤ k := by omega
   have hkw : k < ws.length := by rw [← HNW.out]; exact hlt
   have hgw : BsAt wr g ws := ⟨HK.out _ _ _ _ HI.out.1 HG.out.1, HG.out.2⟩
   obtain ⟨c1, _⟩ := hgw.cell hkw
   obtain ⟨x0, hx0⟩ : ∃ x0, x0 = ws[k] := ⟨_, rfl⟩
   have hxd : ws.getD k 0 = x0 := by rw [hx0]; simp [List.getD, hkw]
   have hxl : x0 < 18446744073709551616 := by rw [hx0]; exact HG.out.2 _ (List.getElem_mem hkw)
   rw [← hx0] at c1
   have HS := zh (show sbits ws (k + 1) = sbits ws k ++ (wbits x0).map fun b => ((64 * k + b : Nat) : Int) from by rw [sbits_succ, hxd])
   have HP := zh (sbits_pre ws (k + 1) nw (by omega))
   have HXL := zh hxl
   clear hgw hxd hx0 hxl
   gi_wp2
   gi_loopw [4] (fun a wq => ∃ (x : Nat) (dn : List Int), a = .int .u64 x ∧ x < 18446744073709551616 ∧ Hid (sbits ws (k + 1) = dn ++ (wbits x).map fun b => ((64 * k + b : Nat) : Int)) ∧ Hid (J dn wq) ∧ Hid (KeepI I W wq)) (fun a _ => (intOf a).toNat)
   case atStart => exact ⟨x0, _, rfl, HXL.out, HS.out, HJs.out, HK.out⟩
   case round =>
    obtain ⟨x, dn, rfl, hxl, HD, HJ2, HK2⟩ := hrel
    by_cases hx : x = 0
    ·subst hx
     have hz : sbits ws (k + 1) = dn := by have := HD.out; rw [wbits_zero] at this; simpa using this
     have HZ := zh hz
     clear hz
     gi_wp2
     go_roundw
     case rel => exact ⟨k + 1, by omega, by go_num, by show J _ _; rw [HZ.out]; exact HJ2.out, HK2.out⟩
     case measure => simp [intOf]; omega
    ·have hx1 : ((x : Int) == 0) = false := by simp; omega
     have hx2 : ¬ (x : Int) = 0 := by omega
     obtain ⟨b, hb⟩ : ∃ b, b = Lib.ctz 64 x := ⟨_, rfl⟩
     have hbl : b < 64 := by rw [hb]; exact (Lib.lowest_bit 64 x hx hxl).2
     have hd := HD.out
     rw [wbits_pos hx, ← hb, List.map_cons] at hd
     have HT2 := zh (tz_any x hxl wr (HT.out.keep HK2.out HI.out.2))
     rw [← hb] at HT2
     have hd2 : sbits ws (k + 1) = (dn ++ [((64 * k + b : Nat) : Int)]) ++ (wbits (x &&& (x - 1))).map fun b => ((64 * k + b : Nat) : Int) := by rw [hd]; simp
     obtain ⟨fn, tmps, assign, body, hy, hR⟩ := HY.out dn ((64 * k + b : Nat) : Int) wr HJ2.out (List.IsPrefix.trans ⟨_, hd2.symm⟩ HP.out)
     have HR := zh hR
     have HD2 := zh hd2
     have q1 : IntKind.i64.wrap ((k : Int) * 64) = ((64 * k : Nat) : Int) := by rw [IntWalk.i64_in _ (by omega)]; omega
     have q2 : IntKind.i64.wrap (((64 * k : Nat) : Int) + (b : Int)) = ((64 * k + b : Nat) : Int) := by rw [IntWalk.i64_in _ (by omega)]; omega
     have q3 : IntKind.u64.wrap ((x : Int) - 1) = ((x - 1 : Nat) : Int) := by rw [IntKind.wrap_u64]; omega
     have q4 : bits .and .u64 (x : Int) ((x - 1 : Nat) : Int) = ((x &&& (x - 1) : Nat) : Int) := bits_and_u64_nat x (x - 1) hxl (by omega)
     have hlt2 : x &&& (x - 1) < x := Nat.lt_of_le_of_lt Nat.and_le_right (by omega)
     generalize hyv : ((64 * k + b : Nat) : Int) = yv at HR HD2 q2 hd hd2 hy
     clear hd hd2 hR hb
     gi_wp2
     refine ⟨trivial, (callsIn_wide.2 HT2.out).mono ?_⟩
     rintro e wz ⟨rfl, rfl⟩
     have q6 : wrap64 yv = yv := by rw [← hyv]; exact IntWalk.wrap64_in _ (by omega)
     have q7 : (64 * (k : Int) + (b : Int)) = yv := by rw [← hyv]; omega
     gi_wp2
     refine HR.out.mono ?_
     rintro e W3 (⟨rfl, hJ3, hk3⟩ | ⟨rfl, hJx3⟩)
     ·have HJ3 := zh hJ3; have HK3 := zh hk3
      clear hJ3 hk3 hy q6 q7 q1 q2 HT2
      gi_wp2
      go_roundw
      case rel => exact ⟨x &&& (x - 1), dn ++ [yv], by first | rfl | simp, by omega, HD2.out, HJ3.out, HK2.out.trans HK3.out⟩
      case measure => simp [intOf]; omega
     ·have HJx3 := zh hJx3
      clear hJx3 hy q6 q7 q1 q2 HT2
      gi_wp2
      refine bodyPost_ret (results_none rfl _ _ _) rfl ?_
      exact ⟨⟨_, rfl⟩, .inr ⟨_, List.IsPrefix.trans ⟨_, HD2.out.symm⟩ HP.out, HJx3.out⟩⟩
  ·obtain rfl : k = nw := by omega
   gi_wp2
   go_end0
   exact ⟨⟨_, rfl⟩, .inl ⟨_, rfl, HJs.out⟩⟩

theorem all_stops (n : Nat) (hn : 1 ≤ n) (Bn g nw : Nat) (ws : List Nat) (I : Nat → Prop) (hI : I g ∧ I 0) (hnw : nw = ws.length) (hlen : nw ≤ 1000000) (w : World) (hBn : Bn < w.heap.size) (hc : w.cell? ⟨Bn, 0, none⟩ = some (bsV g nw)) (hg : BsAt w g ws) (hT : TabH w) :
  SeqStopsK Fence.wide n Tryz.prog 90 #[.pointer (some ⟨Bn, 0, none⟩)] (fun x : Int => #[Value.int .i64 x]) (KeepI I) (fun ys => ys = sbits ws nw) (fun pre => pre <+: sbits ws nw) (sbits ws nw).length w := fun l J Jx W hW hJ _ hY h0 =>
 all_in n hn l Bn g nw ws I hI hnw hlen J Jx (fun pre x W1 h1 h2 => hY pre x W1 h1 (by have := h2.length_le; simp at this; omega)) W ((hW.cell (p := ⟨Bn, 0, none⟩) hBn).trans hc) (hg.below hW) (hT.keep (I := fun _ => True) (KeepI.below hW) trivial) h0
theorem all_stops_el (n : Nat) (hn : 1 ≤ n) (Bn g nw : Nat) (ws : List Nat) (I : Nat → Prop) (hI : I g ∧ I 0) (hnw : nw = ws.length) (hlen : nw ≤ 1000000) (w : World) (hBn : Bn < w.heap.size) (hc : w.cell? ⟨Bn, 0, none⟩ = some (bsV g nw)) (hg : BsAt w g ws) (hT : TabH w) :
  SeqStopsK Fence.wide n Tryz.prog 90 #[.pointer (some ⟨Bn, 0, none⟩)] (fun x : {x : Int // x ∈ sbits ws nw} => #[Value.int .i64 x.1]) (KeepI I) (fun ys => ys.map (·.1) = sbits ws nw) (fun _ => True) (sbits ws nw).length w := fun l J Jx W hW hJ _ hY h0 => by
 refine (all_in n hn l Bn g nw ws I hI hnw hlen (fun pre W => ∃ ys : List {x : Int // x ∈ sbits ws nw}, ys.map (·.1) = pre ∧ J ys W) (fun pre W => ∃ ys : List {x : Int // x ∈ sbits ws nw}, ys.map (·.1) = pre ∧ Jx ys W) ?_ W ((hW.cell (p := ⟨Bn, 0, none⟩) hBn).trans hc) (hg.below hW) (hT.keep (I := fun _ => True) (KeepI.below hW) trivial) ⟨[], rfl, h0⟩).mono ?_
 ·rintro pre x W1 ⟨ys, rfl, hJ1⟩ hp
  have hx : x ∈ sbits ws nw := hp.subset (by simp)
  have hlt : ys.length < (sbits ws nw).length := by have := hp.length_le; simp at this; omega
  refine (hY ys ⟨x, hx⟩ W1 hJ1 hlt).mono ?_
  rintro e W' (⟨rfl, h1, h2⟩ | ⟨rfl, h1⟩)
  ·exact .inl ⟨rfl, ⟨ys ++ [⟨x, hx⟩], by simp, h1⟩, h2⟩
  ·exact .inr ⟨rfl, ys ++ [⟨x, hx⟩], by simp, h1⟩
 ·rintro e W' ⟨hv, ⟨xs, rfl, ys, h1, h2⟩ | ⟨pre, _, ys, h1, h2⟩⟩
  ·exact ⟨hv, .inl ⟨ys, h1, h2⟩⟩
  ·exact ⟨hv, .inr ⟨ys, trivial, h2⟩⟩
end Go.Proofs.YtejdfpieblkapaaGreatDoor

/- Follow. -/
namespace Go.Proofs.YtejdfpieblkapaaGreatDoor
open Go.RowKit Go.Shelf

attribute [local go_sem] Oper.semAt_some

theorem keepI_app {I : Nat → Prop} {W w1 : World} {v u : Value} {b n : Nat} {xs : List Value} {base : Nat} (o : Obj) (hI : ∀ k, I k → k < base) (hrow : W.ownsRow base 3 1 v n xs) (hb : base ≤ b) (hg : (W.alloc o).grownBy w1 v.ownBlock) : KeepI I W (w1.setCell ⟨b, 0, none⟩ u) := by
 intro k c t fz hk h
 have hlt : k < W.heap.size := (Array.getElem?_eq_some_iff.1 h).1
 have h1 : (W.alloc o).heap[k]? = some (.cells c t fz) := (Below.heap_alloc W o k hlt).trans h
 have h2 : some k ≠ v.ownBlock := fun e => by
  obtain ⟨h3, _⟩ := own_ty hrow e.symm
  have := hI k hk
  omega
 have h3 : w1.heap[k]? = some (.cells c t fz) := (hg.block k (Array.getElem?_eq_some_iff.1 h1).1 h2).trans h1
 have h4 : k ≠ b := by have := hI k hk; omega
 exact (Below.heap_setCell w1 ⟨b, 0, none⟩ u k h4).trans h3

set_option maxRecDepth 100000 in
set_option maxHeartbeats 2000000 in
theorem appendSeq_in (n : Nat) (hn : 3 ≤ n) (Bn g nw : Nat) (ws : List Nat) (hnw : nw = ws.length) (hlen : nw ≤ 1000000) (hsl : (sbits ws nw).length ≤ 1000000) (w : World) (hBn : Bn < w.heap.size) (hc : w.cell? ⟨Bn, 0, none⟩ = some (bsV g nw)) (hg : BsAt w g ws) (hT : TabH w) :
  CallsIn Fence.wide n Tryz.prog 89 #[.slice none 0 0, .func (.func 90) #[] #[.pointer (some ⟨Bn, 0, none⟩)]] w fun e W' => ∃ v, e = .returned v ∧ W'.ownsRow w.heap.size 3 1 v (sbits ws nw).length ((sbits ws nw).map (Value.int .i64)) ∧ Below w.heap.size w W' := by
 have h1 : 1 ≤ n := by omega
 obtain ⟨i0, hi, hz0, hz1, hz2⟩ := info_parts Tryz.info3
 have hI : ∀ k, (k = g ∨ k = 0) → k < w.heap.size := by
  rintro k (rfl | rfl)
  ·exact lt_of_heap hg.1
  ·obtain ⟨C, t, fz, h2, _⟩ := hT; exact lt_of_heap h2
 refine callsIn_of_wp_marks Tryz.func89 rfl trivial ?_ rfl
 simp only [Tryz.ntmps89, List.size_toArray, List.length_cons, List.length_nil, Nat.reduceAdd, Nat.reduceSub, Array.replicate_succ, Array.replicate_zero, List.push_toArray, List.append_toArray, List.nil_append, List.cons_append]
 gi_wp2
 have bO := Boxed.new w 32 (.slice none 0 0)
 have hB0 : Below w.heap.size w (w.alloc (.cells #[.slice none 0 0] 32)) := (Below.refl _ w).alloc (Nat.le_refl _) _
 refine wpIn_rangeFunc_ownG rfl h1 (gf := 90) (lb := #[.pointer (some ⟨Bn, 0, none⟩)]) rfl trivial (enters_of Tryz.func90 (by kernel_rfl) rfl)
  (all_stops (n - 1) (by omega) Bn g nw ws (fun k => k = g ∨ k = 0) ⟨.inl rfl, .inr rfl⟩ hnw hlen _ (by simp; omega) ((hB0.cell (p := ⟨Bn, 0, none⟩) hBn).trans hc) (hg.below hB0) (hT.keep (I := fun _ => True) (KeepI.below hB0) trivial)) KeepI.trans (fun W l o o' _ ho hc _ => KeepI.put _ W l o o' ho hc) (Below.refl _ _) (fun _ => rfl)
  (fun pre W => (∃ v, Boxed W w.heap.size 32 v ∧ W.ownsRow w.heap.size 3 1 v pre.length (pre.map (Value.int .i64)) ∧ (v = .slice none 0 0 ↔ pre = [])) ∧ Below w.heap.size w W)
  (fun _ _ _ => False)
  (OwnFrom.and (Own.from (holdsRow_own w.heap.size w.heap.size 32 3 1 (fun pre => pre.length) (fun pre => pre.map (Value.int .i64)) (fun pre v => v = .slice none 0 0 ↔ pre = [])) _) (ownFrom_below (Nat.le_refl _) (by simp)))
  (fun _ _ _ _ _ hs _ _ => hs)
  ⟨⟨_, bO, World.ownsRow_nil _ _ _ _, by simp⟩, hB0⟩
  (fun x => { tmps := #[.slice none 0 0, .func (.func 90) #[] #[.pointer (some ⟨Bn, 0, none⟩)], .pointer (some ⟨w.heap.size, 0, none⟩), undef, .slice none 0 0, .int .i64 x, .func (.func 90) #[] #[.pointer (some ⟨Bn, 0, none⟩)], .int .i64 x, undef, undef, undef, undef, undef], defers := [] }) ?assign ?body ?done ?stop
 case assign =>
  intro l x W K hK
  gi_wp2
  exact hK
 case body =>
  rintro l pre x W ⟨⟨v, hv, hrow, hnil⟩, hB⟩ hlt
  have hcv := hv.cell
  gi_wp2_with (gi_at_builtin; refine wpListIn_append_own _ rfl _ _ 32 rfl w.heap.size 3 i0 (.int .i64 0) 1 8 Tryz.underlying32 hi hz0 hz1 hz2 rfl (by decide) _ _ _ rfl (hrow.alloc _) ⟨W.heap.size, 0, none⟩ 1 1 [.int .i64 x] rfl rfl (cell_one_new _ _ _) (by simp [Value.oneCell']) (by unfold maxLen; omega) (by omega) (by have := hB.size; simp; omega) ?_; intro v' w1 hown' hgrow _; obtain ⟨g', cap', rfl⟩ := ownsRow_succ hown'; obtain ⟨hv1, hv2, hr2, hk2, hb2⟩ := hv.appended (by decide) hrow hB.size (Nat.le_refl _) hown' hgrow; have hc1 := hv1.cell; have hf1 := hv1.frozen)
  exact ⟨hk2.from _, keepI_app _ hI hrow (Nat.le_refl _) hgrow, ⟨_, hv2, by simpa using hr2, by simp⟩, hB.trans hb2⟩
 case done =>
  rintro D ys W hD rfl ⟨⟨v, hv, hrow, hnil⟩, hB⟩ hK
  have hcv := hv.cell
  gi_wp2
  refine ⟨by simp, .inl ⟨_, _, rfl, run_takeDeferred hK, ?_⟩⟩
  exact ⟨_, results_tmp rfl _ _ _, v, rfl, ownsRow_putObj hrow _ hK rfl, hB.trans (belowK_b (w := w) (Nat.le_refl _) W D _ _ (by simp at hD; omega) hK rfl rfl)⟩
 case stop =>
  rintro D c pre W _ _ h _
  exact h.elim
set_option maxHeartbeats 1000000 in
theorem collect_any (Bn g nw : Nat) (ws : List Nat) (hnw : nw = ws.length) (hlen : nw ≤ 1000000) (hsl : (sbits ws nw).length ≤ 1000000) (w : World) (hBn : Bn < w.heap.size) (hc : w.cell? ⟨Bn, 0, none⟩ = some (bsV g nw)) (hg : BsAt w g ws) (hT : TabH w) :
  Calls Tryz.prog 60 #[.func (.func 90) #[] #[.pointer (some ⟨Bn, 0, none⟩)]] w fun e W' => ∃ v, e = .returned v ∧ W'.ownsRow w.heap.size 3 1 v (sbits ws nw).length ((sbits ws nw).map (Value.int .i64)) ∧ Below w.heap.size w W' := by
 have HA := Lib.hid ((callsIn_wide (n := 3)).1 (appendSeq_in 3 (by omega) Bn g nw ws hnw hlen hsl w hBn hc hg hT))
 clear hc hg hT
 go_enter Tryz.func60, Tryz.ntmps60
 go_wp2_with fail
 refine HA.out.mono ?_
 rintro e w1 ⟨v, rfl, ho, hb⟩
 go_wp2
 go_ret
 exact ⟨v, rfl, ho, hb⟩
theorem all_any (w : World) (g nw : Nat) : Calls Tryz.prog 61 #[bsV g nw] w fun e w' => e = .returned (.func (.func 90) #[] #[.pointer (some ⟨w.heap.size, 0, none⟩)]) ∧ w' = w.alloc (.cells #[bsV g nw] 87) := by
 go_enter Tryz.func61, Tryz.ntmps61
 go_wp2
 go_ret
 exact ⟨rfl, rfl⟩
end Go.Proofs.YtejdfpieblkapaaGreatDoor

/- A set's numbers: mathematics. Follow. -/
namespace Go.Proofs.YtejdfpieblkapaaGreatDoor
open Go.RowKit Go.Shelf

theorem low_bits (x : Nat) (h0 : x ≠ 0) (hx : x < 2 ^ 64) : Lib.ctz 64 x < 64 ∧ (∀ j, j < Lib.ctz 64 x → x.testBit j = false) ∧ x.testBit (Lib.ctz 64 x) = true ∧ ∀ j, (x &&& (x - 1)).testBit j = (x.testBit j && decide (j ≠ Lib.ctz 64 x)) := by
 have hc : Lib.ctz 64 x = Lib.ctzFrom 64 x := by unfold Lib.ctz; rw [if_neg h0]
 obtain ⟨m, h1, h2⟩ := Lib.ctzFrom_spec 64 x (by omega) hx
 rw [← hc] at h1 h2
 generalize Lib.ctz 64 x = k at h1 h2
 have hp : 0 < 2 ^ k := Nat.pow_pos (by omega)
 have e1 : x = 2 ^ k * (2 * m + 1) + 0 := by omega
 have e2 : x - 1 = 2 ^ k * (2 * m) + (2 ^ k - 1) := by
  rw [h1, Nat.mul_add, Nat.mul_one]; omega
 have t1 : ∀ j, x.testBit j = if j < k then (0 : Nat).testBit j else (2 * m + 1).testBit (j - k) := fun j => by rw [e1]; exact Nat.testBit_two_pow_mul_add _ hp j
 have t2 : ∀ j, (x - 1).testBit j = if j < k then (2 ^ k - 1).testBit j else (2 * m).testBit (j - k) := fun j => by rw [e2]; exact Nat.testBit_two_pow_mul_add _ (by omega) j
 refine ⟨h2, fun j hj => by rw [t1, if_pos hj]; simp, by rw [t1, if_neg (by omega), Nat.sub_self]; simp, fun j => ?_⟩
 rw [Nat.testBit_and, t1, t2]
 by_cases hj : j < k
 ·rw [if_pos hj]; simp
 ·rw [if_neg hj, if_neg hj]
  by_cases e : j = k
  ·subst e; rw [Nat.sub_self]; simp
  ·obtain ⟨d, hd⟩ : ∃ d, j - k = d + 1 := ⟨j - k - 1, by omega⟩
   have e3 : (2 * m + 1).testBit (d + 1) = m.testBit d := by rw [Nat.testBit_succ]; congr 1; omega
   have e4 : (2 * m).testBit (d + 1) = m.testBit d := by rw [Nat.testBit_succ]; congr 1; omega
   rw [hd, e3, e4]
   simp [e]
theorem wbits_spec : ∀ (x : Nat), x < 2 ^ 64 → (∀ b, b ∈ wbits x ↔ x.testBit b = true) ∧ (wbits x).Pairwise (· < ·)
 | x, hx => by
  by_cases h0 : x = 0
  ·subst h0
   rw [wbits_zero]
   exact ⟨fun b => by simp, .nil⟩
  ·obtain ⟨h1, h2, h3, h4⟩ := low_bits x h0 hx
   have hlt : x &&& (x - 1) < x := Nat.lt_of_le_of_lt Nat.and_le_right (by omega)
   obtain ⟨i1, i2⟩ := wbits_spec (x &&& (x - 1)) (by omega)
   rw [wbits_pos h0]
   refine ⟨fun b => ?_, List.pairwise_cons.2 ⟨fun b hb => ?_, i2⟩⟩
   ·rw [List.mem_cons, i1, h4]
    by_cases e : b = Lib.ctz 64 x
    ·rw [e]; simp [h3]
    ·simp [e]
   ·rw [i1, h4] at hb
    simp only [Bool.and_eq_true, decide_eq_true_eq] at hb
    rcases Nat.lt_trichotomy b (Lib.ctz 64 x) with h | h | h
    ·rw [h2 b h] at hb; exact absurd hb.1 (by simp)
    ·exact absurd h hb.2
    ·exact h
termination_by x => x
theorem bit_lt {x b : Nat} (h : x.testBit b = true) (hx : x < 2 ^ 64) : b < 64 := by
 rcases Nat.lt_or_ge b 64 with h1 | h1
 ·exact h1
 ·rw [Nat.testBit_lt_two_pow (Nat.lt_of_lt_of_le hx (Nat.pow_le_pow_right (by omega) h1))] at h
  cases h
def nbits (ws : List Nat) (k : Nat) : List Nat := (List.range k).flatMap fun i => (wbits (ws.getD i 0)).map fun b => 64 * i + b
theorem sbits_eq (ws : List Nat) (k : Nat) : sbits ws k = (nbits ws k).map fun (q : Nat) => (q : Int) := by
 simp [sbits, nbits, List.map_flatMap, Function.comp_def]
theorem nbits_succ (ws : List Nat) (k : Nat) : nbits ws (k + 1) = nbits ws k ++ (wbits (ws.getD k 0)).map fun b => 64 * k + b := by
 simp [nbits, List.range_succ]
theorem nbits_up (ws : List Nat) (hw : ∀ x ∈ ws, x < 2 ^ 64) : ∀ k, Up 0 (64 * k) (nbits ws k)
 | 0 => by simp [nbits]; exact Up.nil _ _
 | k + 1 => by
  have hx : ws.getD k 0 < 2 ^ 64 := by
   by_cases h : k < ws.length
   ·simp [List.getD, h]; exact hw _ (List.getElem_mem h)
   ·simp [List.getD, h]
  obtain ⟨h1, h2⟩ := wbits_spec _ hx
  rw [nbits_succ]
  refine (nbits_up ws hw k).app (m := 64 * k) (k := 64 * (k + 1)) ⟨List.pairwise_map.2 (h2.imp (fun h => by omega)), fun p hp => ?_⟩ (by omega) (by omega)
  obtain ⟨b, hb, rfl⟩ := List.mem_map.1 hp
  have := bit_lt ((h1 b).1 hb) hx
  omega
theorem nbits_mem (ws : List Nat) (hw : ∀ x ∈ ws, x < 2 ^ 64) (q : Nat) : q ∈ nbits ws ws.length ↔ bt ws q = true := by
 have hx : ∀ k, ws.getD k 0 < 2 ^ 64 := fun k => by
  by_cases h : k < ws.length
  ·simp [List.getD, h]; exact hw _ (List.getElem_mem h)
  ·simp [List.getD, h]
 unfold nbits bt
 rw [List.mem_flatMap]
 constructor
 ·rintro ⟨i, hi, hq⟩
  obtain ⟨b, hb, rfl⟩ := List.mem_map.1 hq
  have h1 := ((wbits_spec _ (hx i)).1 b).1 hb
  have h2 := bit_lt h1 (hx i)
  rw [show (64 * i + b) / 64 = i by omega, show (64 * i + b) % 64 = b by omega]
  exact h1
 ·intro h
  refine ⟨q / 64, List.mem_range.2 ?_, List.mem_map.2 ⟨q % 64, ((wbits_spec _ (hx _)).1 _).2 h, by omega⟩⟩
  rcases Nat.lt_or_ge (q / 64) ws.length with h1 | h1
  ·exact h1
  ·simp [List.getD, Nat.not_lt.2 h1] at h

set_option maxRecDepth 100000 in
set_option maxHeartbeats 2000000 in
theorem follow_any (w : World) (B mb : Nat) (rs : List Rx) (h : MsAt w B mb rs) (hT : TabH w) (p : Nat) (hp : p < cntS rs) :
  Calls Tryz.prog 20 #[ptr mb, .int .i64 p] w fun e w' => ∃ (v : Value) (l : List Nat), e = .returned v ∧ w'.ownsRow w.heap.size 3 1 v l.length (l.map pv) ∧ (∀ q, q ∈ l ↔ folS rs 0 p q = true) ∧ l.Pairwise (· < ·) ∧ l.length ≤ 100000 ∧ Below w.heap.size w w' := by
 have hc2 : cntS rs ≤ 2000 := by obtain ⟨p, X, sv, rv, f, fl, ll, h1, h2, h3, h4⟩ := h; exact h4
 obtain ⟨As, Ar, A, Af, Al, Ae, cs, cr, c, cf, cl, ce, hm, hs, _, _, _, _, ⟨gs, X, hfo⟩, hcap, hcap2⟩ := h.cells
 obtain ⟨fg, ws, cs', rfl, hcp, hfg, _, hbs, hlw, hbt, _⟩ := hfo.1 p hp
 have c2 : w.cell? ⟨mb, 2, none⟩ = some (.slice (some ⟨fg, 0, none⟩) (cntS rs) c) := by rw [Lib.cell_of_heap hm]; rfl
 have HPY := Lib.hid (position_yes w mb As (cntS rs) cs p (by rw [Lib.cell_of_heap hm]; rfl) hp (by omega))
 obtain ⟨N, hN⟩ : ∃ N, N = cntS rs := ⟨_, rfl⟩
 rw [← hN] at c2 hcp hp hc2 hlw hcap
 obtain ⟨nw, hnw⟩ : ∃ nw, nw = nwd N := ⟨_, rfl⟩
 rw [← hnw] at hcp hlw
 have hnw2 : nw ≤ 1000 := by rw [hnw]; show (N + 63) / 64 ≤ 1000; omega
 have hup := nbits_up ws hbs.2 nw
 have hul := hup.len
 have HA := Lib.hid (all_any w (gs p) nw)
 have hal := (Below.refl _ w).alloc (Nat.le_refl _) (.cells #[bsV (gs p) nw] 87)
 have HCO := Lib.hid (collect_any w.heap.size (gs p) nw ws hlw.symm (by omega) (by rw [sbits_eq, List.length_map]; omega) (w.alloc (.cells #[bsV (gs p) nw] 87)) (by simp) (by rw [Lib.cell_of_heap (heap_alloc_new w _)]; rfl) (hbs.below hal) (hT.keep (I := fun _ => True) (KeepI.below hal) trivial))
 have HFIN := Lib.hid (show (∀ q, q ∈ nbits ws nw ↔ folS rs 0 p q = true) ∧ (nbits ws nw).Pairwise (· < ·) ∧ (nbits ws nw).length ≤ 100000 from ⟨fun q => by rw [← hlw, nbits_mem ws hbs.2 q, hbt q], hup.1, by omega⟩)
 have HAL := Lib.hid hal
 have hpi : (p : Int) < N := by omega
 have hp0 : (0 : Int) ≤ p := by omega
 clear h hT hm hs hfo hfg hbs hbt hup hul hal hnw hN hlw
 go_enter Tryz.func20, Tryz.ntmps20
 go_wp2_with fail
 refine HPY.out.mono ?_
 rintro e w1 ⟨rfl, rfl⟩
 go_wp2_with fail
 refine HA.out.mono ?_
 rintro e w2 ⟨rfl, rfl⟩
 go_wp2_with fail
 refine HCO.out.mono ?_
 rintro e w3 ⟨v, rfl, ho, hb⟩
 go_wp2
 go_ret
 rw [sbits_eq, List.length_map, List.map_map] at ho
 exact ⟨v, nbits ws nw, rfl, own_base ho (by simp), HFIN.out.1, HFIN.out.2.1, HFIN.out.2.2, HAL.out.trans (hb.mono (by simp))⟩
end Go.Proofs.YtejdfpieblkapaaGreatDoor
