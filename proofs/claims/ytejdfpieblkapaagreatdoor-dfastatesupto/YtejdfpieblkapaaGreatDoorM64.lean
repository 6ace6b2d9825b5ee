/- Carried from another seat. -/
import Derived.Test.YtejdfpieblkapaaGreatDoorM61
import Derived.Deep.DeepCutAuto
import Derived.Deep.CutBlock
import Derived.OwnWalk
namespace Go.Proofs.YtejdfpieblkapaaGreatDoor
open Lib renaming hid → zh
open Go.RowKit Go.Shelf

theorem FcS.cast {w : World} {X : Nat} {s : ByteArray} {wr : World} {d : Int} {j : Nat} {bad great : Bool} {r : Rx} {cs cs' : List Value} (H : FcS w X s wr d j bad great r cs) (e : cs = cs') : FcS w X s wr d j bad great r cs' := e ▸ H
theorem FcS.rset {w : World} {X : Nat} {s : ByteArray} {wr : World} {d : Int} {j : Nat} {bad great : Bool} {u u' : Ws} {f : Nat → Bool} (H : FcS w X s wr d j bad great (.set u) (RfC 0 (bls f) (.slice none 0 0))) (h : ∀ m, m < 256 → f m = u'.hasN m) : FcS w X s wr d j bad great (.set u') (RfC 0 (bls f) (.slice none 0 0)) := ⟨H.tx, H.res, H.nd, (by show _ = _; rw [bls_ext h]; rfl), H.kb⟩
theorem st30n {ops : Array Oper} {rest : List Oper} {o : Oper} {a : Act} {w : World} {Q : Exit → Act → World → Prop} (hg : o.guard = none) (hd : o.dst = none) (x y : Operand) (ho : o.op = .store 36 x y) (g : Nat) (cs old : List Value) (hx : a.eval x = .pointer (some ⟨g, 0, none⟩)) (hy : a.eval y = .agg cs.toArray) (hb : w.heap[g]? = some (.cells old.toArray 36 (0, 0))) (hold : old.length = 258) (hl : cs.length = 258) (h1 : ∀ v ∈ cs, v.oneCell' = true)
  (h : wpList Tryz.prog ops Q rest a (w.setRow g cs.toArray)) : wpList Tryz.prog ops Q (o :: rest) a w := st30 hg x y ho g cs old hx hy hb hold hl h1 (by rw [hd]; exact h)
theorem bs2n {ops : Array Oper} {rest : List Oper} {o : Oper} {a : Act} {w : World} {Q : Exit → Act → World → Prop} (hg : o.guard = none) (x y : Operand) (ho : o.op = .buildSlice 25 2 #[(0, x), (1, y)]) (N : Nat) (hN : w.heap.size = N) (cx cy : List Value) (hx : a.eval x = .agg cx.toArray) (hy : a.eval y = .agg cy.toArray) (hlx : cx.length = 258) (hly : cy.length = 258)
  (h : wpList Tryz.prog ops Q rest (a.put o.dst (.slice (some ⟨N, 0, none⟩) 2 2)) (w.alloc (.cells (cx ++ cy).toArray 36))) : wpList Tryz.prog ops Q (o :: rest) a w := by
 subst hN
 exact bs2 hg x y ho cx cy hx hy hlx hly h
theorem atomF_let {L : List UInt8} {i : Nat} (h46 : nx L i ≠ 46) (h91 : nx L i ≠ 91) : atomF L i = (letF OUT L i).map fun x => (btw x.1 1, x.2) := by unfold atomF; rw [if_neg h46, if_neg h91]
theorem atomF_cls {L : List UInt8} {i : Nat} (h91 : nx L i = 91) : atomF L i = classF L (i + 1) := by unfold atomF; rw [if_neg (by omega), if_pos h91]
theorem atomF_dot {L : List UInt8} {i : Nat} (h46 : nx L i = 46) : atomF L i = some ((btw 10 1).inv 4, i + 1) := by unfold atomF; rw [if_pos h46]

set_option maxRecDepth 100000 in
set_option maxHeartbeats 1000000 in
theorem factor_r (s : ByteArray) (i : Nat) (hs : s.size ≤ 300) (hor : OrOk s (i + 1)) : FacOk s i := by
 intro w X great d h hi h124 h41 hd
 have hXl := lt_of_heap h
 have hlenL : s.data.toList.length = s.size := by rw [← Lib.size_eq]
 have hsz1 : (w.alloc (.cells Tryz.zeroCells36 36)).heap.size = w.heap.size + 1 := by simp
 have hN : ((w.alloc (.cells Tryz.zeroCells36 36)).alloc (.cells Tryz.zeroCells36 36)).heap[w.heap.size + 1]? = some (.cells (RfC 0 noB (.slice none 0 0)).toArray 36 (0, 0)) := by
  have := heap_alloc_new (w.alloc (.cells Tryz.zeroCells36 36)) (.cells Tryz.zeroCells36 36)
  rw [hsz1, zero30] at this
  rw [zero30]; exact this
 have hR : ((w.alloc (.cells Tryz.zeroCells36 36)).alloc (.cells Tryz.zeroCells36 36)).heap[w.heap.size]? = some (.cells (RfC 0 noB (.slice none 0 0)).toArray 36 (0, 0)) :=
  (Below.heap_alloc (w.alloc (.cells Tryz.zeroCells36 36)) (.cells Tryz.zeroCells36 36) w.heap.size (by simp)).trans (alloc_res w)
 have hb : Below w.heap.size w ((w.alloc (.cells Tryz.zeroCells36 36)).alloc (.cells Tryz.zeroCells36 36)) := ((Below.refl _ w).alloc (Nat.le_refl _) _).alloc (by simp) _
 have hC1 : FcS w X s (((w.alloc (.cells Tryz.zeroCells36 36)).alloc (.cells Tryz.zeroCells36 36)).setRow (w.heap.size + 1) (RfC 0 noB (.slice none 0 0)).toArray) d i false great (.set ws0) (RfC 0 (bls fun _ => false) (.slice none 0 0)) := by
  have kb := setRow_kb ((w.alloc (.cells Tryz.zeroCells36 36)).alloc (.cells Tryz.zeroCells36 36)) (w.heap.size + 1) (RfC 0 noB (.slice none 0 0)).toArray
  have t1 := h.below hb
  exact ⟨(kb.block X (lt_of_heap t1) (by omega)).trans t1, (kb.block _ (lt_of_heap hR) (by omega)).trans hR, setRow_heap _ _ _ _ 36 (0, 0) hN, (by show _ = _; rw [bls_ext (fun k hk => (ws0_has k hk).symm)]; rfl), (Kb.of_below _ hb).trans kb (fun i hi h => by omega)⟩
 have HN := zh hN; have HC1 := zh hC1; have HLL := zh hlenL
 clear hN hR hb hC1 h hsz1 hlenL
 go_enter Tryz.func118, Tryz.ntmps118
 go_upto_block 0 with (first | (refine bd0 rfl rfl ?_) | (refine st30n rfl rfl _ _ rfl (w.heap.size + 1) (RfC 0 noB (.slice none 0 0)) (RfC 0 noB (.slice none 0 0)) rfl rfl HN.out (rf_len _) (rf_len _) (rf_one _) ?_))
 generalize ((w.alloc (.cells Tryz.zeroCells36 36)).alloc (.cells Tryz.zeroCells36 36)).setRow (w.heap.size + 1) (RfC 0 noB (.slice none 0 0)).toArray = w1 at HC1 ⊢
 clear HN
 obtain ⟨i1, hi1⟩ : ∃ i1, i1 = i + 1 := ⟨_, rfl⟩
 have hii1 : i < i1 := by omega
 have hi1s : i1 ≤ s.size := by omega
 have hi1n : i1 ≤ i + 1 := by omega
 have p1 : IntKind.i64.wrap ((i : Int) + 1) = (i1 : Int) := by rw [hi1, IntWalk.i64_in _ (by omega)]; omega
 have HI1 := zh hi1
 clear hi1
 go_cut [] (fun wx => ∃ d' j bad gr r cs, Hid (FcL w X s d i great wx d' j bad gr r cs))
 case first =>
  have HSE := zh (sees_any w1 X s i 40 d false great HC1.out.tx (by omega) (by omega) (by omega))
  go_wp2_with fail
  refine HSE.out.mono ?_
  rintro e w2 ⟨rfl, ht2, hb2⟩
  have HC2 := zh (HC1.out.below hb2)
  clear ht2 hb2 HSE HC1
  by_cases h40 : nx s.data.toList i = 40
  ·skip
   rw [decide_eq_true h40]
   obtain ⟨d1, hd1⟩ : ∃ d1, d1 = d + 1 := ⟨_, rfl⟩
   have p2 : IntKind.i64.wrap ((d : Int) + 1) = (d1 : Int) := by rw [hd1, IntWalk.i64_in _ (by omega)]; omega
   have HD1 := zh hd1
   have hd1n : d1 ≤ 51 := by omega
   clear hd1
   obtain ⟨c0, c1, c2, c3, c4, cf⟩ := tx_cells HC2.out.tx
   have f1 := cf 1; have f2 := cf 2; have f3 := cf 3; have f4 := cf 4
   clear cf

   have HC3 := zh ((HC2.out.txk hXl (Kb.setCell w2 ⟨X, 1, none⟩ (.int .i64 i1)) (HC2.out.tx.at' i1)).txk hXl (Kb.setCell (w2.setCell ⟨X, 1, none⟩ (.int .i64 i1)) ⟨X, 2, none⟩ (.int .i64 d1)) ((HC2.out.tx.at' i1).deep' d1))
   by_cases h50 : d1 = 51
   ·have hd51 : (50 : Int) < (d1 : Int) := by omega
    have HDD := zh (FDead.deep (L := s.data.toList) (d := d) h40 (by have := HD1.out; omega))
    clear h50
    have HRR := zh (show FcL w X s d i great ((((w2.setCell ⟨X, 1, none⟩ (.int .i64 i1)).setCell ⟨X, 2, none⟩ (.int .i64 d1)).setCell ⟨X, 4, none⟩ (.bool true)).setCell ⟨X, 3, none⟩ (.bool true)) d1 i1 true true (.set ws0) (RfC 0 (bls fun _ => false) (.slice none 0 0)) from ⟨(HC3.out.txk hXl (Kb.setCell _ ⟨X, 4, none⟩ (.bool true)) (HC3.out.tx.great' true)).txk hXl (Kb.setCell _ ⟨X, 3, none⟩ (.bool true)) ((HC3.out.tx.great' true).bad' true), hi1s, (fun _ => .inr HDD.out), (fun h => by cases h), (fun _ => ⟨HDD.out, by show 1 ≤ _; omega⟩)⟩)
    clear HC2 HC3
    go_upto_region 9 with fail
    generalize (((w2.setCell ⟨X, 1, none⟩ (.int .i64 i1)).setCell ⟨X, 2, none⟩ (.int .i64 d1)).setCell ⟨X, 4, none⟩ (.bool true)).setCell ⟨X, 3, none⟩ (.bool true) = w9 at HRR ⊢
    clear c0 c1 c2 c3 c4 f1 f2 f3 f4
    go_wp2_with (first | (refine ld30 rfl _ rfl (w.heap.size + 1) 0 (RfC 0 (bls fun _ => false) (.slice none 0 0)) rfl (row_range HRR.out.st.nd) HRR.out.st.rf.len ?_) | (refine st30n rfl rfl _ _ rfl w.heap.size (RfC 0 (bls fun _ => false) (.slice none 0 0)) (RfC 0 (bls fun _ => false) (.slice none 0 0)) rfl rfl HRR.out.st.res (rf_len _) HRR.out.st.rf.len HRR.out.st.rf.rf.one ?_))
    refine bodyPost_ret (results_nd rfl _ _ w.heap.size (RfC 0 (bls fun _ => false) (.slice none 0 0)) (0, 0) rfl (HRR.out.st.fin hXl).2.2.1 HRR.out.st.rf.len) rfl ?_
    exact HRR.out.to hXl (fun h => by cases h)

   ·have hd51 : ¬ (50 : Int) < (d1 : Int) := by omega
    have hd1l : d1 ≤ 50 := by omega
    have hd51b : decide ((50 : Int) < (d1 : Int)) = false := decide_eq_false hd51
    clear h50
    have HCA := zh (hor ((w2.setCell ⟨X, 1, none⟩ (.int .i64 i1)).setCell ⟨X, 2, none⟩ (.int .i64 d1)) X great d1 (by rw [← HI1.out]; exact HC3.out.tx) (by omega) hd1l)
    go_wp2_with fail
    generalize (w2.setCell ⟨X, 1, none⟩ (.int .i64 i1)).setCell ⟨X, 2, none⟩ (.int .i64 d1) = w3 at HC3 HCA ⊢
    clear c0 c1 c2 c3 c4 f1 f2 f3 f4
    refine HCA.out.mono ?_
    rintro e w4 ⟨r0, cs0, gr, rfl, hq, hk, hgr, hcase⟩
    clear HCA HC2
    have hN3 : w.heap.size + 2 ≤ w3.heap.size := lt_of_heap HC3.out.nd
    have hq2 : RfQ (fun k => w.heap.size + 2 ≤ k) w4 r0 cs0 := hq.mono (fun k _ h => by omega)
    have HNd4 := zh ((hk.block (w.heap.size + 1) (lt_of_heap HC3.out.nd) (by omega)).trans HC3.out.nd)
    have HQ2 := zh hq2; have HGR := zh hgr
    have HK := zh hk
    clear hq hq2 hgr hk
    rcases hcase with ⟨j, hop, hij, hjs, hend, hsz, ht⟩ | ⟨j, d', hjs, hsz, ht, hod⟩
    ·have HC4 := zh ((HC3.out.txk hXl HK.out ht).put hXl HQ2.out)
     have HOP := zh hop; have HEND := zh hend
     have HGD := zh (fun (hc : nx s.data.toList j = 41) => show gr = true → great = true ∨ FDead s.data.toList d i from fun hg => by
      have hlt : d < 50 := by have := HD1.out; omega
      have hop' := HOP.out
      rw [HD1.out] at hop'
      rcases HGR.out hg with h | h | h
      ·exact .inl h
      ·rw [HD1.out] at h; exact .inr (FDead.within h40 h)
      ·exact .inr (FDead.great h40 hlt hop' hc h))
     clear hop hend ht HC3
     go_upto_region 11 with (refine st30n rfl rfl _ _ rfl (w.heap.size + 1) cs0 (RfC 0 (bls fun _ => false) (.slice none 0 0)) rfl rfl HNd4.out (rf_len _) HQ2.out.len HQ2.out.rf.one ?_)
     generalize w4.setRow (w.heap.size + 1) cs0.toArray = w5 at HC4 ⊢
     clear HNd4 HK
     obtain ⟨c0, c1, c2, c3, c4, cf⟩ := tx_cells HC4.out.tx
     have f1 := cf 1; have f2 := cf 2; have f3 := cf 3; have f4 := cf 4
     clear cf
     have HSE := zh (sees_any w5 X s j 41 d1 false gr HC4.out.tx hjs (by omega) (by omega))
     go_wp2_with fail
     refine HSE.out.mono ?_
     rintro e w6 ⟨rfl, ht6, hb6⟩
     have HC6 := zh (HC4.out.below hb6)
     clear ht6 hb6 HSE HC4
     clear c0 c1 c2 c3 c4 f1 f2 f3 f4
     obtain ⟨c0, c1, c2, c3, c4, cf⟩ := tx_cells HC6.out.tx
     have f1 := cf 1; have f2 := cf 2; have f3 := cf 3; have f4 := cf 4
     clear cf
     by_cases hc : nx s.data.toList j = 41
     ·rw [decide_eq_true hc]
      have hjl := nx_in hc (by omega)
      obtain ⟨j1, hj1⟩ : ∃ j1, j1 = j + 1 := ⟨_, rfl⟩
      have p3 : IntKind.i64.wrap ((j : Int) + 1) = (j1 : Int) := by rw [hj1, IntWalk.i64_in _ (by omega)]; omega
      have p4 : IntKind.i64.wrap ((d1 : Int) - 1) = (d : Int) := by have := HD1.out; rw [IntWalk.i64_in _ (by omega)]; omega
      have hlt : d < 50 := by have := HD1.out; omega
      have HFF := zh (show FcL w X s d i great ((w6.setCell ⟨X, 1, none⟩ (.int .i64 j1)).setCell ⟨X, 2, none⟩ (.int .i64 d)) d j1 false gr r0 cs0 from ⟨(HC6.out.txk hXl (Kb.setCell w6 ⟨X, 1, none⟩ (.int .i64 j1)) (HC6.out.tx.at' j1)).txk hXl (Kb.setCell _ ⟨X, 2, none⟩ (.int .i64 d)) ((HC6.out.tx.at' j1).deep' d), by omega, HGD.out hc, (fun _ => ⟨by
       have hop' := HOP.out
       rw [HD1.out] at hop'
       rw [hj1]; exact FacS.group h40 hlt hop' hc, rfl, by omega, by omega⟩), (fun h => by cases h)⟩)
      clear hc hj1 HGD HOP HEND
      go_wp2_with fail
      go_meet
      exact ⟨_, _, _, _, _, _, HFF.out⟩
     ·rw [decide_eq_false hc]
      have HRR := zh (show FcL w X s d i great (w6.setCell ⟨X, 3, none⟩ (.bool true)) d1 j true gr r0 cs0 from by
       have hje : j = s.size := HEND.out.resolve_right hc
       have hlt : d < 50 := by have := HD1.out; omega
       have hop' := HOP.out
       rw [HD1.out, hje, ← HLL.out] at hop'
       have hdd := FDead.unshut h40 hlt hop'
       exact ⟨HC6.out.txk hXl (Kb.setCell w6 ⟨X, 3, none⟩ (.bool true)) (HC6.out.tx.bad' true), hjs, (fun _ => .inr hdd), (fun h => by cases h), (fun _ => ⟨hdd, by omega⟩)⟩)
      clear hc HGD HOP HEND
      go_upto_region 15 with fail
      generalize w6.setCell ⟨X, 3, none⟩ (.bool true) = w9 at HRR ⊢
      clear c0 c1 c2 c3 c4 f1 f2 f3 f4
      go_wp2_with (first | (refine ld30 rfl _ rfl (w.heap.size + 1) 0 cs0 rfl (row_range HRR.out.st.nd) HRR.out.st.rf.len ?_) | (refine st30n rfl rfl _ _ rfl w.heap.size cs0 (RfC 0 (bls fun _ => false) (.slice none 0 0)) rfl rfl HRR.out.st.res (rf_len _) HRR.out.st.rf.len HRR.out.st.rf.rf.one ?_))
      refine bodyPost_ret (results_nd rfl _ _ w.heap.size cs0 (0, 0) rfl (HRR.out.st.fin hXl).2.2.1 HRR.out.st.rf.len) rfl ?_
      exact HRR.out.to hXl (fun h => by cases h)

    ·have HC4 := zh ((HC3.out.txk hXl HK.out ht).put hXl HQ2.out)
     have HRR := zh (show FcL w X s d i great (w4.setRow (w.heap.size + 1) cs0.toArray) d' j true gr r0 cs0 from by
      have hdd : FDead s.data.toList d i := FDead.within h40 (by have := hod; rw [HD1.out] at this; exact this)
      exact ⟨HC4.out, hjs, (fun _ => .inr hdd), (fun h => by cases h), (fun _ => ⟨hdd, by omega⟩)⟩)
     clear ht HC3 hod HGR
     obtain ⟨c0, c1, c2, c3, c4, cf⟩ := tx_cells HC4.out.tx
     have f1 := cf 1; have f2 := cf 2; have f3 := cf 3; have f4 := cf 4
     clear cf
     go_upto_region 12 with (refine st30n rfl rfl _ _ rfl (w.heap.size + 1) cs0 (RfC 0 (bls fun _ => false) (.slice none 0 0)) rfl rfl HNd4.out (rf_len _) HQ2.out.len HQ2.out.rf.one ?_)
     generalize w4.setRow (w.heap.size + 1) cs0.toArray = w9 at HRR ⊢
     clear c0 c1 c2 c3 c4 f1 f2 f3 f4
     go_wp2_with (first | (refine ld30 rfl _ rfl (w.heap.size + 1) 0 cs0 rfl (row_range HRR.out.st.nd) HRR.out.st.rf.len ?_) | (refine st30n rfl rfl _ _ rfl w.heap.size cs0 (RfC 0 (bls fun _ => false) (.slice none 0 0)) rfl rfl HRR.out.st.res (rf_len _) HRR.out.st.rf.len HRR.out.st.rf.rf.one ?_))
     refine bodyPost_ret (results_nd rfl _ _ w.heap.size cs0 (0, 0) rfl (HRR.out.st.fin hXl).2.2.1 HRR.out.st.rf.len) rfl ?_
     exact HRR.out.to hXl (fun h => by cases h)

  ·rw [decide_eq_false h40]
   have HSE := zh (sees_any w2 X s i 46 d false great HC2.out.tx (by omega) (by omega) (by omega))
   go_wp2_with fail
   refine HSE.out.mono ?_
   rintro e w3 ⟨rfl, ht3, hb3⟩
   have HC3 := zh (HC2.out.below hb3)
   clear ht3 hb3 HSE
   by_cases h46 : nx s.data.toList i = 46
   ·skip
    rw [decide_eq_true h46]
    obtain ⟨c0, c1, c2, c3, c4, cf⟩ := tx_cells HC3.out.tx
    have f1 := cf 1; have f2 := cf 2; have f3 := cf 3; have f4 := cf 4
    clear cf

    have HC4 := zh (HC3.out.txk hXl (Kb.setCell w3 ⟨X, 1, none⟩ (.int .i64 i1)) (HC3.out.tx.at' i1))
    have HAF := zh (atomF_dot h46)
    clear h46 HC2
    go_wp2_with fail
    generalize w3.setCell ⟨X, 1, none⟩ (.int .i64 i1) = w4 at HC4 ⊢
    clear c0 c1 c2 c3 c4 f1 f2 f3 f4
    go_loopw [4] (fun v wr => ∃ (k : Nat) (u : Ws), k ≤ 256 ∧ v = .int .i64 k ∧ Hid (FcS w X s wr d i1 false great (.set u) (RfC 0 (bls fun m => decide (m < k ∧ m ≠ 10)) (.slice none 0 0)))) (fun v _ => 256 - (intOf v).toNat)
    case atStart => exact ⟨0, ws0, by omega, rfl, HC4.out.cast (by rw [bls_ext (f := fun _ => false) (g := fun m => decide (m < 0 ∧ m ≠ 10)) (fun m _ => by simp)])⟩
    case round =>
     obtain ⟨k, u, hk, rfl, HW⟩ := hrel
     rcases Nat.lt_or_ge k 256 with hlt | hge
     ·have hki : (k : Int) < 256 := by omega
      have hk0 : (0 : Int) ≤ k := by omega
      obtain ⟨z1, z2⟩ := RfB.cell (f := fun m => decide (m < k ∧ m ≠ 10)) HW.out.nd hlt
      have HFin := zh (fun (v : Bool) (hv : v = decide (k ≠ 10)) => (show ∃ u', FcS w X s (wr.setCell ⟨w.heap.size + 1, 1 + k, none⟩ (.bool v)) d i1 false great (.set u') (RfC 0 (bls fun m => decide (m < k + 1 ∧ m ≠ 10)) (.slice none 0 0)) from by
       obtain ⟨u', hu'⟩ := ws_of (fun m => if m = k then v else decide (m < k ∧ m ≠ 10))
       refine ⟨u', (HW.out.set hXl hlt v hu').cast ?_⟩
       rw [bls_ext (fun m _ => ?_)]
       by_cases e : m = k
       ·subst e; rw [if_pos rfl, hv, Bool.eq_iff_iff]; simp
       ·rw [if_neg e, Bool.eq_iff_iff]; simp; omega))
      go_wp2
      go_roundw
      case rel =>
       obtain ⟨u', hu'⟩ := HFin.out ((k : Int) != 10) (by by_cases e : k = 10 <;> simp [e] <;> omega)
       exact ⟨k + 1, u', by omega, by go_num, hu'⟩
      case measure => simp [intOf]; omega
     ·obtain rfl : k = 256 := by omega
      have HFF := zh (show FcL w X s d i great wr d i1 false great (.set ((btw 10 1).inv 4)) (RfC 0 (bls fun m => decide (m < 256 ∧ m ≠ 10)) (.slice none 0 0)) from ⟨HW.out.rset (fun m hm => by rw [dot_has m hm, Bool.eq_iff_iff]; simp; omega), hi1s, (fun h => .inl h), (fun _ => ⟨by rw [HI1.out]; exact FacS.atom HAF.out hd, rfl, hii1, by show 1 + 3 ≤ _; omega⟩), (fun h => by cases h)⟩)
      go_wp2_with fail
      go_meet
      exact ⟨_, _, _, _, _, _, HFF.out⟩

   ·rw [decide_eq_false h46]
    clear HC2
    have HSE := zh (sees_any w3 X s i 91 d false great HC3.out.tx (by omega) (by omega) (by omega))
    go_wp2_with fail
    refine HSE.out.mono ?_
    rintro e w4 ⟨rfl, ht4, hb4⟩
    have HC4 := zh (HC3.out.below hb4)
    clear ht4 hb4 HSE HC3
    by_cases h91 : nx s.data.toList i = 91
    ·skip
     rw [decide_eq_true h91]
     obtain ⟨c0, c1, c2, c3, c4, cf⟩ := tx_cells HC4.out.tx
     have f1 := cf 1; have f2 := cf 2; have f3 := cf 3; have f4 := cf 4
     clear cf

     have HC5 := zh (HC4.out.txk hXl (Kb.setCell w4 ⟨X, 1, none⟩ (.int .i64 i1)) (HC4.out.tx.at' i1))
     have HAF := zh (show atomF s.data.toList i = classF s.data.toList i1 by rw [HI1.out]; exact atomF_cls h91)
     have HCA := zh (class_r (w4.setCell ⟨X, 1, none⟩ (.int .i64 i1)) X s i1 d great HC5.out.tx hi1s (by omega))
     clear HC4
     go_wp2_with fail
     generalize w4.setCell ⟨X, 1, none⟩ (.int .i64 i1) = w5 at HC5 HCA ⊢
     clear c0 c1 c2 c3 c4 f1 f2 f3 f4
     refine HCA.out.mono ?_
     rintro e w6 ⟨hk6, hcase⟩
     have HNd := zh ((hk6.block (w.heap.size + 1) (lt_of_heap HC5.out.nd) (by omega)).trans HC5.out.nd)
     have HK := zh hk6
     clear HCA hk6
     rcases hcase with ⟨u, j, hcl, rfl, ht⟩ | ⟨hcl, u, j, rfl, hj, ht⟩
     ·have haf : atomF s.data.toList i = some (u, j) := HAF.out.trans hcl
      have hao := classF_ok hcl hi1s
      have hij := hao.1
      have hjs := hao.2.1
      have HFF := zh (show FcL w X s d i great (w6.setRow (w.heap.size + 1) (RfC 0 (setB u) (.slice none 0 0)).toArray) d j false great (.set u) (RfC 0 (setB u) (.slice none 0 0)) from ⟨(HC5.out.txk hXl HK.out ht).put hXl rfl, hjs, (fun h => .inl h), (fun _ => ⟨FacS.atom haf hd, rfl, by omega, by show 1 + 3 ≤ _; omega⟩), (fun h => by cases h)⟩)
      clear ht hcl haf HAF hao
      go_wp2_with (refine st30n rfl rfl _ _ rfl (w.heap.size + 1) (RfC 0 (setB u) (.slice none 0 0)) (RfC 0 (bls fun _ => false) (.slice none 0 0)) rfl rfl HNd.out (rf_len _) (rf_len _) (rf_one _) ?_)
      go_meet
      exact ⟨_, _, _, _, _, _, HFF.out⟩
     ·have hdd : FDead s.data.toList d i := FDead.atom (by rw [HLL.out]; exact hi) (HAF.out.trans hcl) h124 h40 h41
      have HFF := zh (show FcL w X s d i great (w6.setRow (w.heap.size + 1) (RfC 0 (setB u) (.slice none 0 0)).toArray) d j true great (.set u) (RfC 0 (setB u) (.slice none 0 0)) from ⟨(HC5.out.txk hXl HK.out ht).put hXl rfl, hj, (fun h => .inl h), (fun h => by cases h), (fun _ => ⟨hdd, by show 1 ≤ _; omega⟩)⟩)
      clear ht hcl HAF hdd
      go_wp2_with (refine st30n rfl rfl _ _ rfl (w.heap.size + 1) (RfC 0 (setB u) (.slice none 0 0)) (RfC 0 (bls fun _ => false) (.slice none 0 0)) rfl rfl HNd.out (rf_len _) (rf_len _) (rf_one _) ?_)
      go_meet
      exact ⟨_, _, _, _, _, _, HFF.out⟩

    ·skip
     rw [decide_eq_false h91]
     have HCA := zh (letter_r w4 X OUT s i d great HC4.out.tx (by omega) (by omega) outS_size out0)
     have HAF := zh (atomF_let h46 h91)
     go_wp2_with fail
     refine HCA.out.mono ?_
     rintro e w6 ⟨hk6, hcase⟩
     have HK := zh hk6
     clear HCA hk6
     rcases hcase with ⟨c, j, hcl, rfl, ht⟩ | ⟨hcl, rfl, j, hj, ht⟩
     ·have haf : atomF s.data.toList i = some (btw c 1, j) := by rw [HAF.out, hcl]; rfl
      obtain ⟨hc256, hij, hjs⟩ := letF_ok hcl (by omega) out0
      have HC6 := zh (HC4.out.txk hXl HK.out ht)
      obtain ⟨z1, z2⟩ := RfB.cell (f := fun _ => false) HC6.out.nd hc256
      have hci : (c : Int) < 256 := by omega
      have hc0 : (0 : Int) ≤ c := by omega
      have HFF := zh (show FcL w X s d i great (w6.setCell ⟨w.heap.size + 1, 1 + c, none⟩ (.bool true)) d j false great (.set (btw c 1)) (RfC 0 (bls fun m => if m = c then true else false) (.slice none 0 0)) from ⟨HC6.out.set hXl hc256 true (fun m hm => by rw [btw_has c 1 m (by omega) hm]; by_cases e : m = c <;> simp [e] <;> omega), hjs, (fun h => .inl h), (fun _ => ⟨FacS.atom haf hd, rfl, by omega, by show 1 + 3 ≤ _; omega⟩), (fun h => by cases h)⟩)
      clear ht hcl haf HAF HC4
      go_wp2_with fail
      go_meet
      exact ⟨_, _, _, _, _, _, HFF.out⟩
     ·have hdd : FDead s.data.toList d i := FDead.atom (by rw [HLL.out]; exact hi) (by rw [HAF.out, hcl]; rfl) h124 h40 h41
      have HC6 := zh (HC4.out.txk hXl HK.out ht)
      obtain ⟨z1, z2⟩ := RfB.cell (f := fun _ => false) (k := 0) HC6.out.nd (by omega)
      have HFF := zh (show FcL w X s d i great (w6.setCell ⟨w.heap.size + 1, 1 + 0, none⟩ (.bool true)) d j true great (.set (btw 0 1)) (RfC 0 (bls fun m => if m = 0 then true else false) (.slice none 0 0)) from ⟨HC6.out.set hXl (by omega) true (fun m hm => by rw [btw_has 0 1 m (by omega) hm]; by_cases e : m = 0 <;> simp [e] <;> omega), hj, (fun h => .inl h), (fun h => by cases h), (fun _ => ⟨hdd, by show 1 ≤ _; omega⟩)⟩)
      clear ht hcl HAF HC4 hdd
      go_wp2_with fail
      go_meet
      exact ⟨_, _, _, _, _, _, HFF.out⟩
 case rest =>
  obtain ⟨d0, j0, bad0, gr0, r0, cs0, HF0⟩ := hcut
  clear HC1
  have HST := zh (show ∃ d' j bad gr r cs, FcL w X s d i great wc d' j bad gr r cs ∧ s.size + 1 ≤ (s.size + 1) + j from ⟨d0, j0, bad0, gr0, r0, cs0, HF0.out, by omega⟩)
  clear HF0
  go_wp2_with fail
  go_loopg [] (s.size + 1) (fun k wr => ∃ d' j bad gr r cs, FcL w X s d i great wr d' j bad gr r cs ∧ s.size + 1 ≤ k + j)
  case atStart => exact HST.out
  case round =>
   clear HST
   obtain ⟨d', j, bad, gr, r, cs, hF, hk⟩ := hrel
   have HF := zh hF
   clear hF
   have hjs := HF.out.js
   obtain ⟨c0, c1, c2, c3, c4, cf⟩ := tx_cells HF.out.st.tx
   have f1 := cf 1; have f2 := cf 2; have f3 := cf 3; have f4 := cf 4
   clear cf
   cases bad
   ·rcases Nat.lt_or_ge j s.size with hlt | hge
    ·have hji : (j : Int) < s.size := by omega
     have hj0 : (0 : Int) ≤ j := by omega
     have hgd : decide ((j : Int) < s.size) = true := decide_eq_true hji
     have hxl := s[j].toNat_lt
     have HNX := zh (nx_get hlt)
     cases hin : inS REP s[j].toNat with
     | false =>
      have HIN := zh (fun w' => in_any REP s[j].toNat w' (by omega) repS_size)
      rw [hin] at HIN
      have HIF := zh hin
      clear hin
      go_wp2_with fail
      go_quiet (first | (go_at_call 145; refine Calls.quiet_of_same (HIN.out _)))
      have HRR := zh (show FcL w X s d i great (wr.drewN nq) d' j false gr r cs from ⟨HF.out.st.below (below_drewN _ wr nq), HF.out.js, HF.out.gr, HF.out.ok, HF.out.bad⟩)
      generalize wr.drewN nq = w9 at HRR ⊢
      clear c0 c1 c2 c3 c4 f1 f2 f3 f4
      go_wp2_with (first | (refine ld30 rfl _ rfl (w.heap.size + 1) 0 cs rfl (row_range HRR.out.st.nd) HRR.out.st.rf.len ?_) | (refine st30n rfl rfl _ _ rfl w.heap.size cs (RfC 0 (bls fun _ => false) (.slice none 0 0)) rfl rfl HRR.out.st.res (rf_len _) HRR.out.st.rf.len HRR.out.st.rf.rf.one ?_))
      refine bodyPost_ret (results_nd rfl _ _ w.heap.size cs (0, 0) rfl (HRR.out.st.fin hXl).2.2.1 HRR.out.st.rf.len) rfl ?_
      exact HRR.out.to hXl (fun _ => by rw [HNX.out]; exact HIF.out)

     | true =>
      have HIN := zh (fun w' => in_any REP s[j].toNat w' (by omega) repS_size)
      rw [hin] at HIN
      have HIT := zh (show inS REP (nx s.data.toList j) = true by rw [HNX.out]; exact hin)
      have H3 := zh (rep_three (by omega) hin)
      clear hin
      go_wp2_with fail
      go_quiet (first | (go_at_call 145; refine Calls.quiet_of_same (HIN.out _)))
      have HF3 := zh (HF.out.st.below (below_drewN _ wr nq))
      generalize wr.drewN nq = w3 at HF3 ⊢
      clear c0 c1 c2 c3 c4 f1 f2 f3 f4
      obtain ⟨c0, c1, c2, c3, c4, cf⟩ := tx_cells HF3.out.tx
      have f1 := cf 1; have f2 := cf 2; have f3 := cf 3; have f4 := cf 4
      clear cf
      go_wp2_with fail
      go_quiet (fail)
      have HF4 := zh (HF3.out.below (below_drewN _ w3 nq))
      generalize w3.drewN nq = w4 at HF4 ⊢
      clear HF3 HIN
      clear c0 c1 c2 c3 c4 f1 f2 f3 f4
      go_upto_block 5 with fail
      go_cut [] (fun wx => ∃ cs', Hid (FcS w X s wx d' j false gr (repF r (nx s.data.toList j)) cs'))
      case first =>
       have hN4 : w.heap.size + 2 ≤ w4.heap.size := lt_of_heap HF4.out.nd
       have HA := zh (show ∀ o : Obj, FcS w X s (w4.alloc o) d' j false gr r cs from fun o => HF4.out.below ((Below.refl _ w4).alloc (Nat.le_refl _) o))
       rcases H3.out with h42 | h43 | h63
       ·have hci : ((s[j].toNat : Nat) : Int) = 42 := by omega
        have hcb : (((s[j].toNat : Nat) : Int) == 42) = true := by simp [hci]
        have HRP := zh (show repF r (nx s.data.toList j) = .star r by rw [HNX.out, h42]; rfl)
        have HFF := zh ((HA.out (.cells cs.toArray 36)).put hXl (r' := .star r) (cs' := RfC 4 noB (.slice (some ⟨w4.heap.size, 0, none⟩) 1 1)) ⟨w4.heap.size, (0, 0), cs, rfl, heap_alloc_new w4 _, hN4, (HA.out _).rf⟩)
        have HND2 := zh (HA.out (.cells cs.toArray 36)).nd
        clear h42 HA
        go_wp2_with (first | (refine ld30 rfl _ rfl (w.heap.size + 1) 0 cs rfl (row_range HF4.out.nd) HF4.out.rf.len ?_) | (refine bs1 rfl _ rfl cs rfl HF4.out.rf.len ?_; generalize w4.alloc (.cells cs.toArray 36) = w5 at HFF HND2 ⊢) | (refine bd2 rfl _ _ rfl _ _ _ _ rfl rfl ?_) | (refine st30n rfl rfl _ _ rfl (w.heap.size + 1) (RfC 4 noB (.slice (some ⟨w4.heap.size, 0, none⟩) 1 1)) cs rfl rfl HND2.out HF4.out.rf.len (noB_l _ _) (noB_one _ _ _ _) ?_))
        go_meet
        exact ⟨_, by rw [HRP.out]; exact HFF.out⟩
       ·have hci : ((s[j].toNat : Nat) : Int) = 43 := by omega
        have hcb : (((s[j].toNat : Nat) : Int) == 42) = false := by simp [hci]
        have hcb2 : (((s[j].toNat : Nat) : Int) == 43) = true := by simp [hci]
        have HRP := zh (show repF r (nx s.data.toList j) = .cat r (.star r) by rw [HNX.out, h43]; rfl)
        have hal1 : (w4.alloc (.cells cs.toArray 36)).heap[w4.heap.size]? = some (.cells cs.toArray 36 (0, 0)) := heap_alloc_new w4 _
        have HA2 := zh (show ∀ o : Obj, FcS w X s ((w4.alloc (.cells cs.toArray 36)).alloc o) d' j false gr r cs from fun o => (HA.out _).below ((Below.refl _ _).alloc (Nat.le_refl _) o))
        have hsz2 : (w4.alloc (.cells cs.toArray 36)).heap.size = w4.heap.size + 1 := by simp
        have HAL2 := zh (show ((w4.alloc (.cells cs.toArray 36)).alloc (.cells (cs ++ RfC 4 noB (.slice (some ⟨w4.heap.size, 0, none⟩) 1 1)).toArray 36)).heap[w4.heap.size + 1]? = some (.cells (cs ++ RfC 4 noB (.slice (some ⟨w4.heap.size, 0, none⟩) 1 1)).toArray 36 (0, 0)) by
         have := heap_alloc_new (w4.alloc (.cells cs.toArray 36)) (.cells (cs ++ RfC 4 noB (.slice (some ⟨w4.heap.size, 0, none⟩) 1 1)).toArray 36)
         rwa [hsz2] at this)
        have HST4 := zh (show RfQ (fun k => w.heap.size + 2 ≤ k) ((w4.alloc (.cells cs.toArray 36)).alloc (.cells (cs ++ RfC 4 noB (.slice (some ⟨w4.heap.size, 0, none⟩) 1 1)).toArray 36)) (.star r) (RfC 4 noB (.slice (some ⟨w4.heap.size, 0, none⟩) 1 1)) from ⟨w4.heap.size, (0, 0), cs, rfl, (Below.heap_alloc _ _ _ (by rw [hsz2]; omega)).trans hal1, hN4, (HA2.out _).rf⟩)
        have HFF := zh ((HA2.out (.cells (cs ++ RfC 4 noB (.slice (some ⟨w4.heap.size, 0, none⟩) 1 1)).toArray 36)).put hXl (r' := .cat r (.star r)) (cs' := RfC 2 noB (.slice (some ⟨w4.heap.size + 1, 0, none⟩) 2 2)) ⟨w4.heap.size + 1, (0, 0), cs, RfC 4 noB (.slice (some ⟨w4.heap.size, 0, none⟩) 1 1), rfl, HAL2.out, by omega, (HA2.out _).rf, HST4.out⟩)
        have HSZ2 := zh hsz2
        have HND2 := zh (HA2.out (.cells (cs ++ RfC 4 noB (.slice (some ⟨w4.heap.size, 0, none⟩) 1 1)).toArray 36)).nd
        clear h43 hal1 hsz2 HA HA2 HAL2 HST4
        go_wp2_with (first | (refine ld30 rfl _ rfl (w.heap.size + 1) 0 cs rfl (row_range HF4.out.nd) HF4.out.rf.len ?_; simp only [Act.put, List.setIfInBounds_toArray, List.set_cons_zero, List.set_cons_succ]) | (refine bs1 rfl _ rfl cs rfl HF4.out.rf.len ?_; generalize w4.alloc (.cells cs.toArray 36) = w5 at HSZ2 HFF HND2 ⊢; simp only [Act.put, List.setIfInBounds_toArray, List.set_cons_zero, List.set_cons_succ]) | (refine bd2 rfl _ _ rfl _ _ _ _ rfl rfl ?_; simp only [Act.put, List.setIfInBounds_toArray, List.set_cons_zero, List.set_cons_succ]) | (refine bs2n rfl _ _ rfl (w4.heap.size + 1) HSZ2.out cs (RfC 4 noB (.slice (some ⟨w4.heap.size, 0, none⟩) 1 1)) rfl rfl HF4.out.rf.len (noB_l _ _) ?_; generalize w5.alloc (.cells (cs ++ RfC 4 noB (.slice (some ⟨w4.heap.size, 0, none⟩) 1 1)).toArray 36) = w6 at HFF HND2 ⊢; simp only [Act.put, List.setIfInBounds_toArray, List.set_cons_zero, List.set_cons_succ]) | (refine bd2 rfl _ _ rfl _ _ _ _ rfl rfl ?_; simp only [Act.put, List.getElem_toArray, List.getElem_cons_zero, List.getElem_cons_succ, List.setIfInBounds_toArray, List.set_cons_zero, List.set_cons_succ]) | (refine st30n rfl rfl _ _ rfl (w.heap.size + 1) (RfC 2 noB (.slice (some ⟨w4.heap.size + 1, 0, none⟩) 2 2)) cs rfl rfl HND2.out HF4.out.rf.len (noB_l _ _) (noB_one _ _ _ _) ?_))
        go_meet
        exact ⟨_, by rw [HRP.out]; exact HFF.out⟩
       ·have hci : ((s[j].toNat : Nat) : Int) = 63 := by omega
        have hcb : (((s[j].toNat : Nat) : Int) == 42) = false := by simp [hci]
        have hcb2 : (((s[j].toNat : Nat) : Int) == 43) = false := by simp [hci]
        have HRP := zh (show repF r (nx s.data.toList j) = .or r .empty by rw [HNX.out, h63]; rfl)
        have HFF := zh ((HA.out (.cells (cs ++ RfC 1 noB (.slice none 0 0)).toArray 36)).put hXl (r' := .or r .empty) (cs' := RfC 3 noB (.slice (some ⟨w4.heap.size, 0, none⟩) 2 2)) ⟨w4.heap.size, (0, 0), cs, RfC 1 noB (.slice none 0 0), rfl, heap_alloc_new w4 _, hN4, (HA.out _).rf, rfl⟩)
        have HND2 := zh (HA.out (.cells (cs ++ RfC 1 noB (.slice none 0 0)).toArray 36)).nd
        clear h63 HA
        go_wp2_with (first | (refine ld30 rfl _ rfl (w.heap.size + 1) 0 cs rfl (row_range HF4.out.nd) HF4.out.rf.len ?_) | (refine bd1 rfl _ rfl rfl ?_) | (refine bs2 rfl _ _ rfl cs (RfC 1 noB (.slice none 0 0)) rfl rfl HF4.out.rf.len (noB_l _ _) ?_; generalize w4.alloc (.cells (cs ++ RfC 1 noB (.slice none 0 0)).toArray 36) = w5 at HFF HND2 ⊢) | (refine bd2 rfl _ _ rfl _ _ _ _ rfl rfl ?_) | (refine st30n rfl rfl _ _ rfl (w.heap.size + 1) (RfC 3 noB (.slice (some ⟨w4.heap.size, 0, none⟩) 2 2)) cs rfl rfl HND2.out HF4.out.rf.len (noB_l _ _) (noB_one _ _ _ _) ?_))
        go_meet
        exact ⟨_, by rw [HRP.out]; exact HFF.out⟩
      case rest =>
       obtain ⟨cs', HF5⟩ := hcut
       obtain ⟨o1, o2, o3, o4⟩ := HF.out.ok rfl
       obtain ⟨j1, hj1⟩ : ∃ j1, j1 = j + 1 := ⟨_, rfl⟩
       have p3 : IntKind.i64.wrap ((j : Int) + 1) = (j1 : Int) := by rw [hj1, IntWalk.i64_in _ (by omega)]; omega
       have hrl := repF_le r (nx s.data.toList j)
       have HMO := zh (o1.more HIT.out hd)
       have HGT := zh (o1.great HIT.out)
       have HGR := zh HF.out.gr
       obtain ⟨r2, hr2⟩ : ∃ r2, r2 = repF r (nx s.data.toList j) := ⟨_, rfl⟩
       rw [← hr2] at hrl HMO HGT HF5
       rw [← hj1] at HMO
       have hj1b : j < j1 := by omega
       have hj1c : j1 ≤ s.size := by omega
       have HO2 := zh o2
       clear o1 o2 hr2 hj1 HF HF4 H3
       obtain ⟨c0, c1, c2, c3, c4, cf⟩ := tx_cells HF5.out.tx
       have f1 := cf 1; have f2 := cf 2; have f3 := cf 3; have f4 := cf 4
       clear cf
       have HF6 := zh (HF5.out.txk hXl (Kb.setCell wc ⟨X, 1, none⟩ (.int .i64 j1)) (HF5.out.tx.at' j1))
       have HSI := zh (rsize_any r2.size r2 (Nat.le_refl _) (by omega) (wc.setCell ⟨X, 1, none⟩ (.int .i64 j1)) cs' HF6.out.rf.rf)
       obtain ⟨z, hz⟩ : ∃ z, z = r2.size := ⟨_, rfl⟩
       rw [← hz] at HSI
       have HZ := zh hz
       go_wp2_with (refine ld30 rfl _ rfl (w.heap.size + 1) 0 cs' rfl (row_range HF6.out.nd) HF6.out.rf.len ?_)
       refine HSI.out.mono ?_
       rintro e w7 ⟨rfl, hb7⟩
       have HF7 := zh (HF6.out.below hb7)
       clear hb7 HF5 HF6 HSI
       clear c0 c1 c2 c3 c4 f1 f2 f3 f4
       obtain ⟨c0, c1, c2, c3, c4, cf⟩ := tx_cells HF7.out.tx
       have f1 := cf 1; have f2 := cf 2; have f3 := cf 3; have f4 := cf 4
       clear cf
       by_cases h400 : 400 < z
       ·have hzi : (400 : Int) < z := by omega
        have HDD := zh (HGT.out (by rw [← HZ.out]; exact h400))
        have hzz := HZ.out
        have hbd : r2.size ≤ 3000 * (s.size + 1 - i) := by omega
        have HFF := zh (show FcL w X s d i great ((w7.setCell ⟨X, 4, none⟩ (.bool true)).setCell ⟨X, 3, none⟩ (.bool true)) d' j1 true true r2 cs' from ⟨(HF7.out.txk hXl (Kb.setCell w7 ⟨X, 4, none⟩ (.bool true)) (HF7.out.tx.great' true)).txk hXl (Kb.setCell _ ⟨X, 3, none⟩ (.bool true)) ((HF7.out.tx.great' true).bad' true), hj1c, (fun _ => .inr HDD.out), (fun h => by cases h), (fun _ => ⟨HDD.out, hbd⟩)⟩)
        clear hz hzz
        go_wp2_with fail
        go_roundg (gk - 1)
        case measure => omega
        case rel => exact ⟨_, _, _, _, _, _, HFF.out, by omega⟩
       ·have hzi : ¬ (400 : Int) < z := by omega
        have hzb : decide ((400 : Int) < z) = false := decide_eq_false hzi
        have hzz := HZ.out
        have HFF := zh (show FcL w X s d i great w7 d' j1 false gr r2 cs' from ⟨HF7.out, hj1c, HGR.out, (fun _ => ⟨HMO.out, HO2.out, by omega, by omega⟩), (fun h => by cases h)⟩)
        clear hz hzz
        go_wp2_with fail
        go_roundg (gk - 1)
        case measure => omega
        case rel => exact ⟨_, _, _, _, _, _, HFF.out, by omega⟩
    ·obtain rfl : j = s.size := by omega
     have hgd : decide ((s.size : Int) < s.size) = false := by simp
     go_wp2_with fail
     go_quiet (fail)
     have HRR := zh (show FcL w X s d i great (wr.drewN nq) d' s.size false gr r cs from ⟨HF.out.st.below (below_drewN _ wr nq), HF.out.js, HF.out.gr, HF.out.ok, HF.out.bad⟩)
     generalize wr.drewN nq = w9 at HRR ⊢
     clear c0 c1 c2 c3 c4 f1 f2 f3 f4
     go_wp2_with (first | (refine ld30 rfl _ rfl (w.heap.size + 1) 0 cs rfl (row_range HRR.out.st.nd) HRR.out.st.rf.len ?_) | (refine st30n rfl rfl _ _ rfl w.heap.size cs (RfC 0 (bls fun _ => false) (.slice none 0 0)) rfl rfl HRR.out.st.res (rf_len _) HRR.out.st.rf.len HRR.out.st.rf.rf.one ?_))
     refine bodyPost_ret (results_nd rfl _ _ w.heap.size cs (0, 0) rfl (HRR.out.st.fin hXl).2.2.1 HRR.out.st.rf.len) rfl ?_
     exact HRR.out.to hXl (fun _ => by rw [nx_end]; exact rep0)

   ·skip
    go_wp2_with fail
    go_quiet (fail)
    have HRR := zh (show FcL w X s d i great (wr.drewN nq) d' j true gr r cs from ⟨HF.out.st.below (below_drewN _ wr nq), HF.out.js, HF.out.gr, HF.out.ok, HF.out.bad⟩)
    generalize wr.drewN nq = w9 at HRR ⊢
    clear c0 c1 c2 c3 c4 f1 f2 f3 f4
    go_wp2_with (first | (refine ld30 rfl _ rfl (w.heap.size + 1) 0 cs rfl (row_range HRR.out.st.nd) HRR.out.st.rf.len ?_) | (refine st30n rfl rfl _ _ rfl w.heap.size cs (RfC 0 (bls fun _ => false) (.slice none 0 0)) rfl rfl HRR.out.st.res (rf_len _) HRR.out.st.rf.len HRR.out.st.rf.rf.one ?_))
    refine bodyPost_ret (results_nd rfl _ _ w.heap.size cs (0, 0) rfl (HRR.out.st.fin hXl).2.2.1 HRR.out.st.rf.len) rfl ?_
    exact HRR.out.to hXl (fun h => by cases h)
end Go.Proofs.YtejdfpieblkapaaGreatDoor

/- Carried from another seat. -/
namespace Go.Proofs.YtejdfpieblkapaaGreatDoor
open Lib renaming hid → zh
open List renaming getElem_toArray → w1z, getElem_cons_zero → w2z, getElem_cons_succ → w3z, setIfInBounds_toArray → w4z, set_cons_zero → w5z, set_cons_succ → w6z
open Go.RowKit Go.Shelf

theorem OrI.below {w : World} {X : Nat} {s : ByteArray} {d i : Nat} {great0 : Bool} {va vl : Value} {wr w2 : World} {d' : Int} {j ia : Nat} {bad gr : Bool} {ways row : List Rx} (H : OrI w X s d i great0 va vl wr d' j ia bad gr ways row) (hX : X < w.heap.size) (hb : Below wr.heap.size wr w2) : OrI w X s d i great0 va vl w2 d' j ia bad gr ways row := by
 obtain ⟨ca, cl, Q, hm⟩ := H.m
 exact ⟨⟨ca, cl, Q, hm.below hX hb⟩, H.js, H.ia1, H.ia2, H.gr, H.sw, H.lw, H.lr, H.ok, H.bad⟩

set_option maxRecDepth 100000 in
set_option maxHeartbeats 2000000 in
theorem or_r (s : ByteArray) (i : Nat) (hs : s.size ≤ 300) (hfac : ∀ j, i ≤ j → j < s.size → FacOk s j) : OrOk s i := by
 intro w X great d h hi hd
 have hXl := lt_of_heap h
 have hlenL : s.data.toList.length = s.size := by rw [← Lib.size_eq]
 have hb : Below w.heap.size w (w.alloc (.cells Tryz.zeroCells36 36)) := (Below.refl _ w).alloc (Nat.le_refl _) _
 have h0 : OrI w X s d i great (.slice none 0 0) (.slice none 0 0) (w.alloc (.cells Tryz.zeroCells36 36)) d i i false great [] [] :=
  ⟨⟨[], [], fun _ => False, ⟨h.below hb, alloc_res w, Kb.of_below _ hb, (fun _ h => h.elim), World.ownsRow_nil _ _ _ _, World.ownsRow_nil _ _ _ _, rfl, rfl, (fun _ _ h => h), (fun _ _ h => h), (fun g h => by simp [Value.ownBlock] at h)⟩⟩, hi, Nat.le_refl _, hi, (fun h => .inl h), by simp [szs], by simp, by simp, (fun _ => ⟨OrS.start _ _ _, rfl, Nat.le_refl _, by simp [szs], by simp⟩), (fun h => by cases h)⟩
 have H0 := zh h0; have HLL := zh hlenL; have HFAC := zh hfac
 clear h0 hb h hlenL hfac
 go_enter Tryz.func76, Tryz.ntmps76
 go_wp2_with fail
 generalize w.alloc (.cells Tryz.zeroCells36 36) = w1 at H0 ⊢
 go_loopg [3] (s.size + 1) (fun k va wr => ∃ ia gr ways, OrI w X s d i great va (.slice none 0 0) wr d ia ia false gr ways [] ∧ s.size + 1 ≤ k + ia)
 case atStart => exact ⟨i, great, [], H0.out, by omega⟩
 case round =>
  clear H0
  obtain ⟨va, hva⟩ : ∃ va, va = u3 := ⟨_, rfl⟩
  subst hva
  obtain ⟨ia, gr, ways, hI, hk⟩ := hrel
  obtain ⟨kO, hkO⟩ : ∃ kO, kO = gk - 1 := ⟨_, rfl⟩
  have hia := hI.ia2
  have hkO1 : kO < gk := by omega
  have hkO2 : s.size + 1 ≤ kO + 1 + ia := by omega
  have HI := zh hI
  clear hI hk hkO
  go_wp2_with fail
  go_loopg [4] (s.size + 1) (fun k2 vl wr2 => ∃ d' j bad gr2 row, OrI w X s d i great va vl wr2 d' j ia bad gr2 ways row ∧ (bad = false → s.size + 1 ≤ k2 + j))
  case atStart => exact ⟨d, ia, false, gr, [], HI.out, fun _ => by omega⟩
  case round =>
   clear HI
   obtain ⟨d', j, bad, gr2, row, hJ, hk2⟩ := hrel
   obtain ⟨vl, hvl⟩ : ∃ vl, vl = u4 := ⟨_, rfl⟩
   subst hvl
   have hjs := hJ.js
   have HTX := zh (hJ.m.elim fun _ h => h.elim fun _ h => h.elim fun _ h => h.tx)
   have HJ := zh hJ; have HK2 := zh hk2
   clear hJ hk2
   go_upto_region 3 with fail
   go_cut [32] (fun v wx => ∃ c, v = .bool c ∧ Hid (c = decide (bad = false ∧ j < s.size ∧ nx s.data.toList j ≠ 124 ∧ nx s.data.toList j ≠ 41)) ∧ Hid (Below wr.heap.size wr wx))
   case first =>
    cases bad
    ·have HSE1 := zh (fun w' (h : TxB w' X s j d' false gr2) => sees_any w' X s j 124 d' false gr2 h hjs (by omega) (by omega))
     have HSE2 := zh (fun w' (h : TxB w' X s j d' false gr2) => sees_any w' X s j 41 d' false gr2 h hjs (by omega) (by omega))
     rcases Nat.lt_or_ge j s.size with hlt | hge
     ·have hji : (j : Int) < s.size := by omega
      by_cases h124 : nx s.data.toList j = 124
      ·skip
       refine wp_region_held_drew (S := fun w' => TxB w' X s j d' false gr2 ∧ Below wr.heap.size wr w') (by kernel_rfl) ⟨HTX.out.below ((Below.refl _ wr).drew), (Below.refl _ wr).drew⟩ ?_
       intro hS
       change wpAnyH _ _ _ _ _ 27 (Array.replicate 27 false) _ (World.drew _)
       generalize wr.drew = wz at hS ⊢

       refine wpAnyH_take (i := 0) (v := ?_) rfl (by kernel_rfl) (by kernel_rfl) (by kernel_rfl) (fun _ _ _ h => h) (Or.inl ⟨by rfl, ?_⟩) hS ?_
       rotate_left 1
       ·intro wq hq
        obtain ⟨q0, q1, q2, q3, q4, _⟩ := tx_cells hq.1
        go_simp; (try with_reducible rfl)
       try simp only [Act.put, w1z, w2z, w4z, w5z, w6z]

       refine wpAnyH_take (i := 1) (v := ?_) rfl (by kernel_rfl) (by kernel_rfl) (by kernel_rfl) (fun _ _ _ h => h) (Or.inl ⟨by rfl, ?_⟩) hS ?_
       rotate_left 1
       ·intro wq hq
        obtain ⟨q0, q1, q2, q3, q4, _⟩ := tx_cells hq.1
        go_simp; (try with_reducible rfl)
       try simp only [Act.put, w1z, w2z, w3z, w4z, w5z, w6z]

       refine wpAnyH_take (i := 2) (v := ?_) rfl (by kernel_rfl) (by kernel_rfl) (by kernel_rfl) (fun _ _ _ h => h) (Or.inl ⟨by rfl, ?_⟩) hS ?_
       rotate_left 1
       ·intro wq hq
        obtain ⟨q0, q1, q2, q3, q4, _⟩ := tx_cells hq.1
        go_simp; (try with_reducible rfl)
       try simp only [Act.put, w1z, w2z, w3z, w4z, w5z, w6z]

       refine wpAnyH_take (i := 3) (v := ?_) rfl (by kernel_rfl) (by kernel_rfl) (by kernel_rfl) (fun _ _ _ h => h) (Or.inl ⟨by rfl, ?_⟩) hS ?_
       rotate_left 1
       ·intro wq hq
        obtain ⟨q0, q1, q2, q3, q4, _⟩ := tx_cells hq.1
        go_simp; (try with_reducible rfl)
       try simp only [Act.put, w1z, w2z, w3z, w4z, w5z, w6z]

       refine wpAnyH_take (i := 4) (v := ?_) rfl (by kernel_rfl) (by kernel_rfl) (by kernel_rfl) (fun _ _ _ h => h) (Or.inl ⟨by rfl, ?_⟩) hS ?_
       rotate_left 1
       ·intro wq hq
        obtain ⟨q0, q1, q2, q3, q4, _⟩ := tx_cells hq.1
        go_simp; (try with_reducible rfl)
       try simp only [Act.put, w1z, w2z, w3z, w4z, w5z, w6z]

       refine wpAnyH_take (i := 5) (v := ?_) rfl (by kernel_rfl) (by kernel_rfl) (by kernel_rfl) (fun _ _ _ h => h) (Or.inl ⟨by rfl, ?_⟩) hS ?_
       rotate_left 1
       ·intro wq hq
        obtain ⟨q0, q1, q2, q3, q4, _⟩ := tx_cells hq.1
        go_simp; (try with_reducible rfl)
       try simp only [Act.put, w1z, w2z, w3z, w4z, w5z, w6z]

       refine wpAnyH_take (i := 6) (v := ?_) rfl (by kernel_rfl) (by kernel_rfl) (by kernel_rfl) (fun _ _ _ h => h) (Or.inl ⟨by rfl, ?_⟩) hS ?_
       rotate_left 1
       ·intro wq hq
        obtain ⟨q0, q1, q2, q3, q4, _⟩ := tx_cells hq.1
        go_simp; (try with_reducible rfl)
       try simp only [Act.put, w1z, w2z, w3z, w4z, w5z, w6z]

       refine wpAnyH_take (i := 7) (v := ?_) rfl (by kernel_rfl) (by kernel_rfl) (by kernel_rfl) (fun _ _ _ h => h) (Or.inl ⟨by rfl, ?_⟩) hS ?_
       rotate_left 1
       ·intro wq hq
        obtain ⟨q0, q1, q2, q3, q4, _⟩ := tx_cells hq.1
        go_simp; (try with_reducible rfl)
       try simp only [Act.put, w1z, w2z, w3z, w4z, w5z, w6z]

       refine wpAnyH_take (i := 8) (v := ?_) rfl (by kernel_rfl) (by kernel_rfl) (by kernel_rfl) (fun _ _ _ h => h) (Or.inl ⟨by rfl, ?_⟩) hS ?_
       rotate_left 1
       ·intro wq hq
        obtain ⟨q0, q1, q2, q3, q4, _⟩ := tx_cells hq.1
        go_simp; (try with_reducible rfl)
       try simp only [Act.put, w1z, w2z, w3z, w4z, w5z, w6z]

       refine wpAnyH_take (i := 9) (v := ?_) rfl (by kernel_rfl) (by kernel_rfl) (by kernel_rfl) (fun _ _ _ h => h) (Or.inl ⟨by rfl, ?_⟩) hS ?_
       rotate_left 1
       ·intro wq hq
        obtain ⟨q0, q1, q2, q3, q4, _⟩ := tx_cells hq.1
        go_simp; (try with_reducible rfl)
       try simp only [Act.put, w1z, w2z, w3z, w4z, w5z, w6z]

       refine wpAnyH_take (i := 10) (v := ?_) rfl (by kernel_rfl) (by kernel_rfl) (by kernel_rfl) (fun _ _ _ h => h) (Or.inl ⟨by rfl, ?_⟩) hS ?_
       rotate_left 1
       ·intro wq hq
        obtain ⟨q0, q1, q2, q3, q4, _⟩ := tx_cells hq.1
        go_simp; (try with_reducible rfl)
       try simp only [Act.put, w1z, w2z, w3z, w4z, w5z, w6z]

       refine wpAnyH_take (i := 11) (v := ?_) rfl (by kernel_rfl) (by kernel_rfl) (by kernel_rfl) (fun _ _ _ h => h) (Or.inl ⟨by rfl, ?_⟩) hS ?_
       rotate_left 1
       ·intro wq hq
        obtain ⟨q0, q1, q2, q3, q4, _⟩ := tx_cells hq.1
        go_simp; (try with_reducible rfl)
       try simp only [Act.put, w1z, w2z, w3z, w4z, w5z, w6z]

       refine wpAnyH_take (i := 12) (v := ?_) rfl (by kernel_rfl) (by kernel_rfl) (by kernel_rfl) (fun _ _ _ h => h) (Or.inl ⟨by rfl, ?_⟩) hS ?_
       rotate_left 1
       ·intro wq hq
        obtain ⟨q0, q1, q2, q3, q4, _⟩ := tx_cells hq.1
        go_simp; (try with_reducible rfl)
       try simp only [Act.put, w1z, w2z, w3z, w4z, w5z, w6z]

       refine wpAnyH_take (i := 13) (v := ?_) rfl (by kernel_rfl) (by kernel_rfl) (by kernel_rfl) (fun _ _ _ h => h) (Or.inl ⟨by rfl, ?_⟩) hS ?_
       rotate_left 1
       ·intro wq hq
        obtain ⟨q0, q1, q2, q3, q4, _⟩ := tx_cells hq.1
        go_simp; (try with_reducible rfl)
       try simp only [Act.put, w1z, w2z, w3z, w4z, w5z, w6z]

       refine wpAnyH_take (i := 14) (v := ?_) rfl (by kernel_rfl) (by kernel_rfl) (by kernel_rfl) (fun _ _ _ h => h) (Or.inl ⟨by rfl, ?_⟩) hS ?_
       rotate_left 1
       ·intro wq hq
        obtain ⟨q0, q1, q2, q3, q4, _⟩ := tx_cells hq.1
        go_simp; (try with_reducible rfl)
       try simp only [Act.put, w1z, w2z, w3z, w4z, w5z, w6z]

       refine wpAnyH_take (i := 15) (v := ?_) rfl (by kernel_rfl) (by kernel_rfl) (by kernel_rfl) (fun _ _ _ h => h) (Or.inl ⟨by rfl, ?_⟩) hS ?_
       rotate_left 1
       ·intro wq hq
        obtain ⟨q0, q1, q2, q3, q4, _⟩ := tx_cells hq.1
        go_simp; (try with_reducible rfl)
       try simp only [Act.put, w1z, w2z, w3z, w4z, w5z, w6z]

       refine wpAnyH_take (i := 16) (v := ?_) rfl (by kernel_rfl) (by kernel_rfl) (by kernel_rfl) (fun _ _ _ h => h) (Or.inl ⟨by rfl, ?_⟩) hS ?_
       rotate_left 1
       ·intro wq hq
        obtain ⟨q0, q1, q2, q3, q4, _⟩ := tx_cells hq.1
        go_simp; (try with_reducible rfl)
       try simp only [Act.put, w1z, w2z, w3z, w4z, w5z, w6z]

       refine wpAnyH_take (i := 17) (v := ?_) rfl (by kernel_rfl) (by kernel_rfl) (by kernel_rfl) (fun _ _ _ h => h) (Or.inl ⟨by rfl, ?_⟩) hS ?_
       rotate_left 1
       ·intro wq hq
        obtain ⟨q0, q1, q2, q3, q4, _⟩ := tx_cells hq.1
        go_simp; (try with_reducible rfl)
       try simp only [Act.put, w1z, w2z, w3z, w4z, w5z, w6z]

       refine wpAnyH_take (i := 18) (v := ?_) rfl (by kernel_rfl) (by kernel_rfl) (by kernel_rfl) (fun _ _ _ h => h) (Or.inl ⟨by rfl, ?_⟩) hS ?_
       rotate_left 1
       ·intro wq hq
        obtain ⟨q0, q1, q2, q3, q4, _⟩ := tx_cells hq.1
        go_simp; (try with_reducible rfl)
       try simp only [Act.put, w1z, w2z, w3z, w4z, w5z, w6z]

       refine wpAnyH_ready (rs := [19]) (by kernel_rfl) (by simp) ?_
       refine AllReadyH.cons rfl (fun K' hK => ?_) AllReadyH.nil
       go_simp
       go_at_call 117
       refine (HSE1.out _ hS.1).mono ?_
       rintro e wy ⟨rfl, hty, hby⟩
       refine hK.out _ _ ⟨hty, below_tr hS.2 hby hS.2.size⟩ (fun hS => ?_)
       clear hK K' hty hby
       rw [decide_eq_true h124]
       try simp only [Act.put, w1z, w2z, w3z, w4z, w5z, w6z]

       refine wpAnyH_take (i := 20) (v := ?_) rfl (by kernel_rfl) (by kernel_rfl) (by kernel_rfl) (fun _ _ _ h => h) (Or.inl ⟨by rfl, ?_⟩) hS ?_
       rotate_left 1
       ·intro wq hq
        obtain ⟨q0, q1, q2, q3, q4, _⟩ := tx_cells hq.1
        go_simp; (try with_reducible rfl)
       try simp only [Act.put, w1z, w2z, w3z, w4z, w5z, w6z]

       refine wpAnyH_take (i := 21) (v := ?_) rfl (by kernel_rfl) (by kernel_rfl) (by kernel_rfl) (fun _ _ _ h => h) (Or.inl ⟨by rfl, ?_⟩) hS ?_
       rotate_left 1
       ·intro wq hq
        obtain ⟨q0, q1, q2, q3, q4, _⟩ := tx_cells hq.1
        go_simp; (try with_reducible rfl)
       try simp only [Act.put, w1z, w2z, w3z, w4z, w5z, w6z]

       refine wpAnyH_take (i := 22) (v := ?_) rfl (by kernel_rfl) (by kernel_rfl) (by kernel_rfl) (fun _ _ _ h => h) (Or.inl ⟨by rfl, ?_⟩) hS ?_
       rotate_left 1
       ·intro wq hq
        obtain ⟨q0, q1, q2, q3, q4, _⟩ := tx_cells hq.1
        go_simp; (try with_reducible rfl)
       try simp only [Act.put, w1z, w2z, w3z, w4z, w5z, w6z]

       refine wpAnyH_take (i := 23) (v := undef) rfl (by kernel_rfl) (by kernel_rfl) (by kernel_rfl) (fun _ _ _ h => h) (Or.inr ⟨by rfl, rfl⟩) hS ?_
       try simp only [Act.put, w1z, w2z, w3z, w4z, w5z, w6z]

       refine wpAnyH_ready (rs := [24]) (by kernel_rfl) (by simp) ?_
       refine AllReadyH.cons rfl (fun K' hK => ?_) AllReadyH.nil
       go_simp
       refine hK.out _ _ hS (fun hS => ?_)
       clear hK K'
       try simp only [Act.put, w1z, w2z, w3z, w4z, w5z, w6z]

       refine wpAnyH_take (i := 25) (v := undef) rfl (by kernel_rfl) (by kernel_rfl) (by kernel_rfl) (fun _ _ _ h => h) (Or.inr ⟨by rfl, rfl⟩) hS ?_
       try simp only [Act.put, w1z, w2z, w3z, w4z, w5z, w6z]

       refine wpAnyH_take (i := 26) (v := ?_) rfl (by kernel_rfl) (by kernel_rfl) (by kernel_rfl) (fun _ _ _ h => h) (Or.inl ⟨by rfl, ?_⟩) hS ?_
       rotate_left 1
       ·intro wq hq
        obtain ⟨q0, q1, q2, q3, q4, _⟩ := tx_cells hq.1
        go_simp; (try with_reducible rfl)
       try simp only [Act.put, w1z, w2z, w3z, w4z, w5z, w6z]

       refine wpAnyH_done (by kernel_rfl) ?_ _
       go_wp2_with fail
       go_meet
       exact ⟨false, rfl, (by show false = decide _; rw [decide_eq_false]; intro h; exact h.2.2.1 h124), hS.2⟩

      ·by_cases h41 : nx s.data.toList j = 41
       ·skip
        refine wp_region_held_drew (S := fun w' => TxB w' X s j d' false gr2 ∧ Below wr.heap.size wr w') (by kernel_rfl) ⟨HTX.out.below ((Below.refl _ wr).drew), (Below.refl _ wr).drew⟩ ?_
        intro hS
        change wpAnyH _ _ _ _ _ 27 (Array.replicate 27 false) _ (World.drew _)
        generalize wr.drew = wz at hS ⊢

        refine wpAnyH_take (i := 0) (v := ?_) rfl (by kernel_rfl) (by kernel_rfl) (by kernel_rfl) (fun _ _ _ h => h) (Or.inl ⟨by rfl, ?_⟩) hS ?_
        rotate_left 1
        ·intro wq hq
         obtain ⟨q0, q1, q2, q3, q4, _⟩ := tx_cells hq.1
         go_simp; (try with_reducible rfl)
        try simp only [Act.put, w1z, w2z, w4z, w5z, w6z]

        refine wpAnyH_take (i := 1) (v := ?_) rfl (by kernel_rfl) (by kernel_rfl) (by kernel_rfl) (fun _ _ _ h => h) (Or.inl ⟨by rfl, ?_⟩) hS ?_
        rotate_left 1
        ·intro wq hq
         obtain ⟨q0, q1, q2, q3, q4, _⟩ := tx_cells hq.1
         go_simp; (try with_reducible rfl)
        try simp only [Act.put, w1z, w2z, w3z, w4z, w5z, w6z]

        refine wpAnyH_take (i := 2) (v := ?_) rfl (by kernel_rfl) (by kernel_rfl) (by kernel_rfl) (fun _ _ _ h => h) (Or.inl ⟨by rfl, ?_⟩) hS ?_
        rotate_left 1
        ·intro wq hq
         obtain ⟨q0, q1, q2, q3, q4, _⟩ := tx_cells hq.1
         go_simp; (try with_reducible rfl)
        try simp only [Act.put, w1z, w2z, w3z, w4z, w5z, w6z]

        refine wpAnyH_take (i := 3) (v := ?_) rfl (by kernel_rfl) (by kernel_rfl) (by kernel_rfl) (fun _ _ _ h => h) (Or.inl ⟨by rfl, ?_⟩) hS ?_
        rotate_left 1
        ·intro wq hq
         obtain ⟨q0, q1, q2, q3, q4, _⟩ := tx_cells hq.1
         go_simp; (try with_reducible rfl)
        try simp only [Act.put, w1z, w2z, w3z, w4z, w5z, w6z]

        refine wpAnyH_take (i := 4) (v := ?_) rfl (by kernel_rfl) (by kernel_rfl) (by kernel_rfl) (fun _ _ _ h => h) (Or.inl ⟨by rfl, ?_⟩) hS ?_
        rotate_left 1
        ·intro wq hq
         obtain ⟨q0, q1, q2, q3, q4, _⟩ := tx_cells hq.1
         go_simp; (try with_reducible rfl)
        try simp only [Act.put, w1z, w2z, w3z, w4z, w5z, w6z]

        refine wpAnyH_take (i := 5) (v := ?_) rfl (by kernel_rfl) (by kernel_rfl) (by kernel_rfl) (fun _ _ _ h => h) (Or.inl ⟨by rfl, ?_⟩) hS ?_
        rotate_left 1
        ·intro wq hq
         obtain ⟨q0, q1, q2, q3, q4, _⟩ := tx_cells hq.1
         go_simp; (try with_reducible rfl)
        try simp only [Act.put, w1z, w2z, w3z, w4z, w5z, w6z]

        refine wpAnyH_take (i := 6) (v := ?_) rfl (by kernel_rfl) (by kernel_rfl) (by kernel_rfl) (fun _ _ _ h => h) (Or.inl ⟨by rfl, ?_⟩) hS ?_
        rotate_left 1
        ·intro wq hq
         obtain ⟨q0, q1, q2, q3, q4, _⟩ := tx_cells hq.1
         go_simp; (try with_reducible rfl)
        try simp only [Act.put, w1z, w2z, w3z, w4z, w5z, w6z]

        refine wpAnyH_take (i := 7) (v := ?_) rfl (by kernel_rfl) (by kernel_rfl) (by kernel_rfl) (fun _ _ _ h => h) (Or.inl ⟨by rfl, ?_⟩) hS ?_
        rotate_left 1
        ·intro wq hq
         obtain ⟨q0, q1, q2, q3, q4, _⟩ := tx_cells hq.1
         go_simp; (try with_reducible rfl)
        try simp only [Act.put, w1z, w2z, w3z, w4z, w5z, w6z]

        refine wpAnyH_take (i := 8) (v := ?_) rfl (by kernel_rfl) (by kernel_rfl) (by kernel_rfl) (fun _ _ _ h => h) (Or.inl ⟨by rfl, ?_⟩) hS ?_
        rotate_left 1
        ·intro wq hq
         obtain ⟨q0, q1, q2, q3, q4, _⟩ := tx_cells hq.1
         go_simp; (try with_reducible rfl)
        try simp only [Act.put, w1z, w2z, w3z, w4z, w5z, w6z]

        refine wpAnyH_take (i := 9) (v := ?_) rfl (by kernel_rfl) (by kernel_rfl) (by kernel_rfl) (fun _ _ _ h => h) (Or.inl ⟨by rfl, ?_⟩) hS ?_
        rotate_left 1
        ·intro wq hq
         obtain ⟨q0, q1, q2, q3, q4, _⟩ := tx_cells hq.1
         go_simp; (try with_reducible rfl)
        try simp only [Act.put, w1z, w2z, w3z, w4z, w5z, w6z]

        refine wpAnyH_take (i := 10) (v := ?_) rfl (by kernel_rfl) (by kernel_rfl) (by kernel_rfl) (fun _ _ _ h => h) (Or.inl ⟨by rfl, ?_⟩) hS ?_
        rotate_left 1
        ·intro wq hq
         obtain ⟨q0, q1, q2, q3, q4, _⟩ := tx_cells hq.1
         go_simp; (try with_reducible rfl)
        try simp only [Act.put, w1z, w2z, w3z, w4z, w5z, w6z]

        refine wpAnyH_take (i := 11) (v := ?_) rfl (by kernel_rfl) (by kernel_rfl) (by kernel_rfl) (fun _ _ _ h => h) (Or.inl ⟨by rfl, ?_⟩) hS ?_
        rotate_left 1
        ·intro wq hq
         obtain ⟨q0, q1, q2, q3, q4, _⟩ := tx_cells hq.1
         go_simp; (try with_reducible rfl)
        try simp only [Act.put, w1z, w2z, w3z, w4z, w5z, w6z]

        refine wpAnyH_take (i := 12) (v := ?_) rfl (by kernel_rfl) (by kernel_rfl) (by kernel_rfl) (fun _ _ _ h => h) (Or.inl ⟨by rfl, ?_⟩) hS ?_
        rotate_left 1
        ·intro wq hq
         obtain ⟨q0, q1, q2, q3, q4, _⟩ := tx_cells hq.1
         go_simp; (try with_reducible rfl)
        try simp only [Act.put, w1z, w2z, w3z, w4z, w5z, w6z]

        refine wpAnyH_take (i := 13) (v := ?_) rfl (by kernel_rfl) (by kernel_rfl) (by kernel_rfl) (fun _ _ _ h => h) (Or.inl ⟨by rfl, ?_⟩) hS ?_
        rotate_left 1
        ·intro wq hq
         obtain ⟨q0, q1, q2, q3, q4, _⟩ := tx_cells hq.1
         go_simp; (try with_reducible rfl)
        try simp only [Act.put, w1z, w2z, w3z, w4z, w5z, w6z]

        refine wpAnyH_take (i := 14) (v := ?_) rfl (by kernel_rfl) (by kernel_rfl) (by kernel_rfl) (fun _ _ _ h => h) (Or.inl ⟨by rfl, ?_⟩) hS ?_
        rotate_left 1
        ·intro wq hq
         obtain ⟨q0, q1, q2, q3, q4, _⟩ := tx_cells hq.1
         go_simp; (try with_reducible rfl)
        try simp only [Act.put, w1z, w2z, w3z, w4z, w5z, w6z]

        refine wpAnyH_take (i := 15) (v := ?_) rfl (by kernel_rfl) (by kernel_rfl) (by kernel_rfl) (fun _ _ _ h => h) (Or.inl ⟨by rfl, ?_⟩) hS ?_
        rotate_left 1
        ·intro wq hq
         obtain ⟨q0, q1, q2, q3, q4, _⟩ := tx_cells hq.1
         go_simp; (try with_reducible rfl)
        try simp only [Act.put, w1z, w2z, w3z, w4z, w5z, w6z]

        refine wpAnyH_take (i := 16) (v := ?_) rfl (by kernel_rfl) (by kernel_rfl) (by kernel_rfl) (fun _ _ _ h => h) (Or.inl ⟨by rfl, ?_⟩) hS ?_
        rotate_left 1
        ·intro wq hq
         obtain ⟨q0, q1, q2, q3, q4, _⟩ := tx_cells hq.1
         go_simp; (try with_reducible rfl)
        try simp only [Act.put, w1z, w2z, w3z, w4z, w5z, w6z]

        refine wpAnyH_take (i := 17) (v := ?_) rfl (by kernel_rfl) (by kernel_rfl) (by kernel_rfl) (fun _ _ _ h => h) (Or.inl ⟨by rfl, ?_⟩) hS ?_
        rotate_left 1
        ·intro wq hq
         obtain ⟨q0, q1, q2, q3, q4, _⟩ := tx_cells hq.1
         go_simp; (try with_reducible rfl)
        try simp only [Act.put, w1z, w2z, w3z, w4z, w5z, w6z]

        refine wpAnyH_take (i := 18) (v := ?_) rfl (by kernel_rfl) (by kernel_rfl) (by kernel_rfl) (fun _ _ _ h => h) (Or.inl ⟨by rfl, ?_⟩) hS ?_
        rotate_left 1
        ·intro wq hq
         obtain ⟨q0, q1, q2, q3, q4, _⟩ := tx_cells hq.1
         go_simp; (try with_reducible rfl)
        try simp only [Act.put, w1z, w2z, w3z, w4z, w5z, w6z]

        refine wpAnyH_ready (rs := [19]) (by kernel_rfl) (by simp) ?_
        refine AllReadyH.cons rfl (fun K' hK => ?_) AllReadyH.nil
        go_simp
        go_at_call 117
        refine (HSE1.out _ hS.1).mono ?_
        rintro e wy ⟨rfl, hty, hby⟩
        refine hK.out _ _ ⟨hty, below_tr hS.2 hby hS.2.size⟩ (fun hS => ?_)
        clear hK K' hty hby
        rw [decide_eq_false h124]
        try simp only [Act.put, w1z, w2z, w3z, w4z, w5z, w6z]

        refine wpAnyH_take (i := 20) (v := ?_) rfl (by kernel_rfl) (by kernel_rfl) (by kernel_rfl) (fun _ _ _ h => h) (Or.inl ⟨by rfl, ?_⟩) hS ?_
        rotate_left 1
        ·intro wq hq
         obtain ⟨q0, q1, q2, q3, q4, _⟩ := tx_cells hq.1
         go_simp; (try with_reducible rfl)
        try simp only [Act.put, w1z, w2z, w3z, w4z, w5z, w6z]

        refine wpAnyH_take (i := 21) (v := ?_) rfl (by kernel_rfl) (by kernel_rfl) (by kernel_rfl) (fun _ _ _ h => h) (Or.inl ⟨by rfl, ?_⟩) hS ?_
        rotate_left 1
        ·intro wq hq
         obtain ⟨q0, q1, q2, q3, q4, _⟩ := tx_cells hq.1
         go_simp; (try with_reducible rfl)
        try simp only [Act.put, w1z, w2z, w3z, w4z, w5z, w6z]

        refine wpAnyH_take (i := 22) (v := ?_) rfl (by kernel_rfl) (by kernel_rfl) (by kernel_rfl) (fun _ _ _ h => h) (Or.inl ⟨by rfl, ?_⟩) hS ?_
        rotate_left 1
        ·intro wq hq
         obtain ⟨q0, q1, q2, q3, q4, _⟩ := tx_cells hq.1
         go_simp; (try with_reducible rfl)
        try simp only [Act.put, w1z, w2z, w3z, w4z, w5z, w6z]

        refine wpAnyH_take (i := 23) (v := ?_) rfl (by kernel_rfl) (by kernel_rfl) (by kernel_rfl) (fun _ _ _ h => h) (Or.inl ⟨by rfl, ?_⟩) hS ?_
        rotate_left 1
        ·intro wq hq
         obtain ⟨q0, q1, q2, q3, q4, _⟩ := tx_cells hq.1
         go_simp; (try with_reducible rfl)
        try simp only [Act.put, w1z, w2z, w3z, w4z, w5z, w6z]

        refine wpAnyH_ready (rs := [24]) (by kernel_rfl) (by simp) ?_
        refine AllReadyH.cons rfl (fun K' hK => ?_) AllReadyH.nil
        go_simp
        go_at_call 117
        refine (HSE2.out _ hS.1).mono ?_
        rintro e wy ⟨rfl, hty, hby⟩
        refine hK.out _ _ ⟨hty, below_tr hS.2 hby hS.2.size⟩ (fun hS => ?_)
        clear hK K' hty hby
        rw [decide_eq_true h41]
        try simp only [Act.put, w1z, w2z, w3z, w4z, w5z, w6z]

        refine wpAnyH_take (i := 25) (v := ?_) rfl (by kernel_rfl) (by kernel_rfl) (by kernel_rfl) (fun _ _ _ h => h) (Or.inl ⟨by rfl, ?_⟩) hS ?_
        rotate_left 1
        ·intro wq hq
         obtain ⟨q0, q1, q2, q3, q4, _⟩ := tx_cells hq.1
         go_simp; (try with_reducible rfl)
        try simp only [Act.put, w1z, w2z, w3z, w4z, w5z, w6z]

        refine wpAnyH_take (i := 26) (v := ?_) rfl (by kernel_rfl) (by kernel_rfl) (by kernel_rfl) (fun _ _ _ h => h) (Or.inl ⟨by rfl, ?_⟩) hS ?_
        rotate_left 1
        ·intro wq hq
         obtain ⟨q0, q1, q2, q3, q4, _⟩ := tx_cells hq.1
         go_simp; (try with_reducible rfl)
        try simp only [Act.put, w1z, w2z, w3z, w4z, w5z, w6z]

        refine wpAnyH_done (by kernel_rfl) ?_ _
        go_wp2_with fail
        go_meet
        exact ⟨false, rfl, (by show false = decide _; rw [decide_eq_false]; intro h; exact h.2.2.2 h41), hS.2⟩

       ·skip
        refine wp_region_held_drew (S := fun w' => TxB w' X s j d' false gr2 ∧ Below wr.heap.size wr w') (by kernel_rfl) ⟨HTX.out.below ((Below.refl _ wr).drew), (Below.refl _ wr).drew⟩ ?_
        intro hS
        change wpAnyH _ _ _ _ _ 27 (Array.replicate 27 false) _ (World.drew _)
        generalize wr.drew = wz at hS ⊢

        refine wpAnyH_take (i := 0) (v := ?_) rfl (by kernel_rfl) (by kernel_rfl) (by kernel_rfl) (fun _ _ _ h => h) (Or.inl ⟨by rfl, ?_⟩) hS ?_
        rotate_left 1
        ·intro wq hq
         obtain ⟨q0, q1, q2, q3, q4, _⟩ := tx_cells hq.1
         go_simp; (try with_reducible rfl)
        try simp only [Act.put, w1z, w2z, w4z, w5z, w6z]

        refine wpAnyH_take (i := 1) (v := ?_) rfl (by kernel_rfl) (by kernel_rfl) (by kernel_rfl) (fun _ _ _ h => h) (Or.inl ⟨by rfl, ?_⟩) hS ?_
        rotate_left 1
        ·intro wq hq
         obtain ⟨q0, q1, q2, q3, q4, _⟩ := tx_cells hq.1
         go_simp; (try with_reducible rfl)
        try simp only [Act.put, w1z, w2z, w3z, w4z, w5z, w6z]

        refine wpAnyH_take (i := 2) (v := ?_) rfl (by kernel_rfl) (by kernel_rfl) (by kernel_rfl) (fun _ _ _ h => h) (Or.inl ⟨by rfl, ?_⟩) hS ?_
        rotate_left 1
        ·intro wq hq
         obtain ⟨q0, q1, q2, q3, q4, _⟩ := tx_cells hq.1
         go_simp; (try with_reducible rfl)
        try simp only [Act.put, w1z, w2z, w3z, w4z, w5z, w6z]

        refine wpAnyH_take (i := 3) (v := ?_) rfl (by kernel_rfl) (by kernel_rfl) (by kernel_rfl) (fun _ _ _ h => h) (Or.inl ⟨by rfl, ?_⟩) hS ?_
        rotate_left 1
        ·intro wq hq
         obtain ⟨q0, q1, q2, q3, q4, _⟩ := tx_cells hq.1
         go_simp; (try with_reducible rfl)
        try simp only [Act.put, w1z, w2z, w3z, w4z, w5z, w6z]

        refine wpAnyH_take (i := 4) (v := ?_) rfl (by kernel_rfl) (by kernel_rfl) (by kernel_rfl) (fun _ _ _ h => h) (Or.inl ⟨by rfl, ?_⟩) hS ?_
        rotate_left 1
        ·intro wq hq
         obtain ⟨q0, q1, q2, q3, q4, _⟩ := tx_cells hq.1
         go_simp; (try with_reducible rfl)
        try simp only [Act.put, w1z, w2z, w3z, w4z, w5z, w6z]

        refine wpAnyH_take (i := 5) (v := ?_) rfl (by kernel_rfl) (by kernel_rfl) (by kernel_rfl) (fun _ _ _ h => h) (Or.inl ⟨by rfl, ?_⟩) hS ?_
        rotate_left 1
        ·intro wq hq
         obtain ⟨q0, q1, q2, q3, q4, _⟩ := tx_cells hq.1
         go_simp; (try with_reducible rfl)
        try simp only [Act.put, w1z, w2z, w3z, w4z, w5z, w6z]

        refine wpAnyH_take (i := 6) (v := ?_) rfl (by kernel_rfl) (by kernel_rfl) (by kernel_rfl) (fun _ _ _ h => h) (Or.inl ⟨by rfl, ?_⟩) hS ?_
        rotate_left 1
        ·intro wq hq
         obtain ⟨q0, q1, q2, q3, q4, _⟩ := tx_cells hq.1
         go_simp; (try with_reducible rfl)
        try simp only [Act.put, w1z, w2z, w3z, w4z, w5z, w6z]

        refine wpAnyH_take (i := 7) (v := ?_) rfl (by kernel_rfl) (by kernel_rfl) (by kernel_rfl) (fun _ _ _ h => h) (Or.inl ⟨by rfl, ?_⟩) hS ?_
        rotate_left 1
        ·intro wq hq
         obtain ⟨q0, q1, q2, q3, q4, _⟩ := tx_cells hq.1
         go_simp; (try with_reducible rfl)
        try simp only [Act.put, w1z, w2z, w3z, w4z, w5z, w6z]

        refine wpAnyH_take (i := 8) (v := ?_) rfl (by kernel_rfl) (by kernel_rfl) (by kernel_rfl) (fun _ _ _ h => h) (Or.inl ⟨by rfl, ?_⟩) hS ?_
        rotate_left 1
        ·intro wq hq
         obtain ⟨q0, q1, q2, q3, q4, _⟩ := tx_cells hq.1
         go_simp; (try with_reducible rfl)
        try simp only [Act.put, w1z, w2z, w3z, w4z, w5z, w6z]

        refine wpAnyH_take (i := 9) (v := ?_) rfl (by kernel_rfl) (by kernel_rfl) (by kernel_rfl) (fun _ _ _ h => h) (Or.inl ⟨by rfl, ?_⟩) hS ?_
        rotate_left 1
        ·intro wq hq
         obtain ⟨q0, q1, q2, q3, q4, _⟩ := tx_cells hq.1
         go_simp; (try with_reducible rfl)
        try simp only [Act.put, w1z, w2z, w3z, w4z, w5z, w6z]

        refine wpAnyH_take (i := 10) (v := ?_) rfl (by kernel_rfl) (by kernel_rfl) (by kernel_rfl) (fun _ _ _ h => h) (Or.inl ⟨by rfl, ?_⟩) hS ?_
        rotate_left 1
        ·intro wq hq
         obtain ⟨q0, q1, q2, q3, q4, _⟩ := tx_cells hq.1
         go_simp; (try with_reducible rfl)
        try simp only [Act.put, w1z, w2z, w3z, w4z, w5z, w6z]

        refine wpAnyH_take (i := 11) (v := ?_) rfl (by kernel_rfl) (by kernel_rfl) (by kernel_rfl) (fun _ _ _ h => h) (Or.inl ⟨by rfl, ?_⟩) hS ?_
        rotate_left 1
        ·intro wq hq
         obtain ⟨q0, q1, q2, q3, q4, _⟩ := tx_cells hq.1
         go_simp; (try with_reducible rfl)
        try simp only [Act.put, w1z, w2z, w3z, w4z, w5z, w6z]

        refine wpAnyH_take (i := 12) (v := ?_) rfl (by kernel_rfl) (by kernel_rfl) (by kernel_rfl) (fun _ _ _ h => h) (Or.inl ⟨by rfl, ?_⟩) hS ?_
        rotate_left 1
        ·intro wq hq
         obtain ⟨q0, q1, q2, q3, q4, _⟩ := tx_cells hq.1
         go_simp; (try with_reducible rfl)
        try simp only [Act.put, w1z, w2z, w3z, w4z, w5z, w6z]

        refine wpAnyH_take (i := 13) (v := ?_) rfl (by kernel_rfl) (by kernel_rfl) (by kernel_rfl) (fun _ _ _ h => h) (Or.inl ⟨by rfl, ?_⟩) hS ?_
        rotate_left 1
        ·intro wq hq
         obtain ⟨q0, q1, q2, q3, q4, _⟩ := tx_cells hq.1
         go_simp; (try with_reducible rfl)
        try simp only [Act.put, w1z, w2z, w3z, w4z, w5z, w6z]

        refine wpAnyH_take (i := 14) (v := ?_) rfl (by kernel_rfl) (by kernel_rfl) (by kernel_rfl) (fun _ _ _ h => h) (Or.inl ⟨by rfl, ?_⟩) hS ?_
        rotate_left 1
        ·intro wq hq
         obtain ⟨q0, q1, q2, q3, q4, _⟩ := tx_cells hq.1
         go_simp; (try with_reducible rfl)
        try simp only [Act.put, w1z, w2z, w3z, w4z, w5z, w6z]

        refine wpAnyH_take (i := 15) (v := ?_) rfl (by kernel_rfl) (by kernel_rfl) (by kernel_rfl) (fun _ _ _ h => h) (Or.inl ⟨by rfl, ?_⟩) hS ?_
        rotate_left 1
        ·intro wq hq
         obtain ⟨q0, q1, q2, q3, q4, _⟩ := tx_cells hq.1
         go_simp; (try with_reducible rfl)
        try simp only [Act.put, w1z, w2z, w3z, w4z, w5z, w6z]

        refine wpAnyH_take (i := 16) (v := ?_) rfl (by kernel_rfl) (by kernel_rfl) (by kernel_rfl) (fun _ _ _ h => h) (Or.inl ⟨by rfl, ?_⟩) hS ?_
        rotate_left 1
        ·intro wq hq
         obtain ⟨q0, q1, q2, q3, q4, _⟩ := tx_cells hq.1
         go_simp; (try with_reducible rfl)
        try simp only [Act.put, w1z, w2z, w3z, w4z, w5z, w6z]

        refine wpAnyH_take (i := 17) (v := ?_) rfl (by kernel_rfl) (by kernel_rfl) (by kernel_rfl) (fun _ _ _ h => h) (Or.inl ⟨by rfl, ?_⟩) hS ?_
        rotate_left 1
        ·intro wq hq
         obtain ⟨q0, q1, q2, q3, q4, _⟩ := tx_cells hq.1
         go_simp; (try with_reducible rfl)
        try simp only [Act.put, w1z, w2z, w3z, w4z, w5z, w6z]

        refine wpAnyH_take (i := 18) (v := ?_) rfl (by kernel_rfl) (by kernel_rfl) (by kernel_rfl) (fun _ _ _ h => h) (Or.inl ⟨by rfl, ?_⟩) hS ?_
        rotate_left 1
        ·intro wq hq
         obtain ⟨q0, q1, q2, q3, q4, _⟩ := tx_cells hq.1
         go_simp; (try with_reducible rfl)
        try simp only [Act.put, w1z, w2z, w3z, w4z, w5z, w6z]

        refine wpAnyH_ready (rs := [19]) (by kernel_rfl) (by simp) ?_
        refine AllReadyH.cons rfl (fun K' hK => ?_) AllReadyH.nil
        go_simp
        go_at_call 117
        refine (HSE1.out _ hS.1).mono ?_
        rintro e wy ⟨rfl, hty, hby⟩
        refine hK.out _ _ ⟨hty, below_tr hS.2 hby hS.2.size⟩ (fun hS => ?_)
        clear hK K' hty hby
        rw [decide_eq_false h124]
        try simp only [Act.put, w1z, w2z, w3z, w4z, w5z, w6z]

        refine wpAnyH_take (i := 20) (v := ?_) rfl (by kernel_rfl) (by kernel_rfl) (by kernel_rfl) (fun _ _ _ h => h) (Or.inl ⟨by rfl, ?_⟩) hS ?_
        rotate_left 1
        ·intro wq hq
         obtain ⟨q0, q1, q2, q3, q4, _⟩ := tx_cells hq.1
         go_simp; (try with_reducible rfl)
        try simp only [Act.put, w1z, w2z, w3z, w4z, w5z, w6z]

        refine wpAnyH_take (i := 21) (v := ?_) rfl (by kernel_rfl) (by kernel_rfl) (by kernel_rfl) (fun _ _ _ h => h) (Or.inl ⟨by rfl, ?_⟩) hS ?_
        rotate_left 1
        ·intro wq hq
         obtain ⟨q0, q1, q2, q3, q4, _⟩ := tx_cells hq.1
         go_simp; (try with_reducible rfl)
        try simp only [Act.put, w1z, w2z, w3z, w4z, w5z, w6z]

        refine wpAnyH_take (i := 22) (v := ?_) rfl (by kernel_rfl) (by kernel_rfl) (by kernel_rfl) (fun _ _ _ h => h) (Or.inl ⟨by rfl, ?_⟩) hS ?_
        rotate_left 1
        ·intro wq hq
         obtain ⟨q0, q1, q2, q3, q4, _⟩ := tx_cells hq.1
         go_simp; (try with_reducible rfl)
        try simp only [Act.put, w1z, w2z, w3z, w4z, w5z, w6z]

        refine wpAnyH_take (i := 23) (v := ?_) rfl (by kernel_rfl) (by kernel_rfl) (by kernel_rfl) (fun _ _ _ h => h) (Or.inl ⟨by rfl, ?_⟩) hS ?_
        rotate_left 1
        ·intro wq hq
         obtain ⟨q0, q1, q2, q3, q4, _⟩ := tx_cells hq.1
         go_simp; (try with_reducible rfl)
        try simp only [Act.put, w1z, w2z, w3z, w4z, w5z, w6z]

        refine wpAnyH_ready (rs := [24]) (by kernel_rfl) (by simp) ?_
        refine AllReadyH.cons rfl (fun K' hK => ?_) AllReadyH.nil
        go_simp
        go_at_call 117
        refine (HSE2.out _ hS.1).mono ?_
        rintro e wy ⟨rfl, hty, hby⟩
        refine hK.out _ _ ⟨hty, below_tr hS.2 hby hS.2.size⟩ (fun hS => ?_)
        clear hK K' hty hby
        rw [decide_eq_false h41]
        try simp only [Act.put, w1z, w2z, w3z, w4z, w5z, w6z]

        refine wpAnyH_take (i := 25) (v := ?_) rfl (by kernel_rfl) (by kernel_rfl) (by kernel_rfl) (fun _ _ _ h => h) (Or.inl ⟨by rfl, ?_⟩) hS ?_
        rotate_left 1
        ·intro wq hq
         obtain ⟨q0, q1, q2, q3, q4, _⟩ := tx_cells hq.1
         go_simp; (try with_reducible rfl)
        try simp only [Act.put, w1z, w2z, w3z, w4z, w5z, w6z]

        refine wpAnyH_take (i := 26) (v := ?_) rfl (by kernel_rfl) (by kernel_rfl) (by kernel_rfl) (fun _ _ _ h => h) (Or.inl ⟨by rfl, ?_⟩) hS ?_
        rotate_left 1
        ·intro wq hq
         obtain ⟨q0, q1, q2, q3, q4, _⟩ := tx_cells hq.1
         go_simp; (try with_reducible rfl)
        try simp only [Act.put, w1z, w2z, w3z, w4z, w5z, w6z]

        refine wpAnyH_done (by kernel_rfl) ?_ _
        go_wp2_with fail
        go_meet
        exact ⟨true, rfl, (by show true = decide _; rw [decide_eq_true]; exact ⟨by first | rfl | trivial, hlt, h124, h41⟩), hS.2⟩

     ·have hji : ¬ (j : Int) < s.size := by omega
      have hjd : decide ((j : Int) < s.size) = false := decide_eq_false hji
      refine wp_region_held_drew (S := fun w' => TxB w' X s j d' false gr2 ∧ Below wr.heap.size wr w') (by kernel_rfl) ⟨HTX.out.below ((Below.refl _ wr).drew), (Below.refl _ wr).drew⟩ ?_
      intro hS
      change wpAnyH _ _ _ _ _ 27 (Array.replicate 27 false) _ (World.drew _)
      generalize wr.drew = wz at hS ⊢

      refine wpAnyH_take (i := 0) (v := ?_) rfl (by kernel_rfl) (by kernel_rfl) (by kernel_rfl) (fun _ _ _ h => h) (Or.inl ⟨by rfl, ?_⟩) hS ?_
      rotate_left 1
      ·intro wq hq
       obtain ⟨q0, q1, q2, q3, q4, _⟩ := tx_cells hq.1
       go_simp; (try with_reducible rfl)
      try simp only [Act.put, w1z, w2z, w4z, w5z, w6z]

      refine wpAnyH_take (i := 1) (v := ?_) rfl (by kernel_rfl) (by kernel_rfl) (by kernel_rfl) (fun _ _ _ h => h) (Or.inl ⟨by rfl, ?_⟩) hS ?_
      rotate_left 1
      ·intro wq hq
       obtain ⟨q0, q1, q2, q3, q4, _⟩ := tx_cells hq.1
       go_simp; (try with_reducible rfl)
      try simp only [Act.put, w1z, w2z, w3z, w4z, w5z, w6z]

      refine wpAnyH_take (i := 2) (v := ?_) rfl (by kernel_rfl) (by kernel_rfl) (by kernel_rfl) (fun _ _ _ h => h) (Or.inl ⟨by rfl, ?_⟩) hS ?_
      rotate_left 1
      ·intro wq hq
       obtain ⟨q0, q1, q2, q3, q4, _⟩ := tx_cells hq.1
       go_simp; (try with_reducible rfl)
      try simp only [Act.put, w1z, w2z, w3z, w4z, w5z, w6z]

      refine wpAnyH_take (i := 3) (v := ?_) rfl (by kernel_rfl) (by kernel_rfl) (by kernel_rfl) (fun _ _ _ h => h) (Or.inl ⟨by rfl, ?_⟩) hS ?_
      rotate_left 1
      ·intro wq hq
       obtain ⟨q0, q1, q2, q3, q4, _⟩ := tx_cells hq.1
       go_simp; (try with_reducible rfl)
      try simp only [Act.put, w1z, w2z, w3z, w4z, w5z, w6z]

      refine wpAnyH_take (i := 4) (v := ?_) rfl (by kernel_rfl) (by kernel_rfl) (by kernel_rfl) (fun _ _ _ h => h) (Or.inl ⟨by rfl, ?_⟩) hS ?_
      rotate_left 1
      ·intro wq hq
       obtain ⟨q0, q1, q2, q3, q4, _⟩ := tx_cells hq.1
       go_simp; (try with_reducible rfl)
      try simp only [Act.put, w1z, w2z, w3z, w4z, w5z, w6z]

      refine wpAnyH_take (i := 5) (v := ?_) rfl (by kernel_rfl) (by kernel_rfl) (by kernel_rfl) (fun _ _ _ h => h) (Or.inl ⟨by rfl, ?_⟩) hS ?_
      rotate_left 1
      ·intro wq hq
       obtain ⟨q0, q1, q2, q3, q4, _⟩ := tx_cells hq.1
       go_simp; (try with_reducible rfl)
      try simp only [Act.put, w1z, w2z, w3z, w4z, w5z, w6z]

      refine wpAnyH_take (i := 6) (v := ?_) rfl (by kernel_rfl) (by kernel_rfl) (by kernel_rfl) (fun _ _ _ h => h) (Or.inl ⟨by rfl, ?_⟩) hS ?_
      rotate_left 1
      ·intro wq hq
       obtain ⟨q0, q1, q2, q3, q4, _⟩ := tx_cells hq.1
       go_simp; (try with_reducible rfl)
      try simp only [Act.put, w1z, w2z, w3z, w4z, w5z, w6z]

      refine wpAnyH_take (i := 7) (v := ?_) rfl (by kernel_rfl) (by kernel_rfl) (by kernel_rfl) (fun _ _ _ h => h) (Or.inl ⟨by rfl, ?_⟩) hS ?_
      rotate_left 1
      ·intro wq hq
       obtain ⟨q0, q1, q2, q3, q4, _⟩ := tx_cells hq.1
       go_simp; (try with_reducible rfl)
      try simp only [Act.put, w1z, w2z, w3z, w4z, w5z, w6z]

      refine wpAnyH_take (i := 8) (v := ?_) rfl (by kernel_rfl) (by kernel_rfl) (by kernel_rfl) (fun _ _ _ h => h) (Or.inl ⟨by rfl, ?_⟩) hS ?_
      rotate_left 1
      ·intro wq hq
       obtain ⟨q0, q1, q2, q3, q4, _⟩ := tx_cells hq.1
       go_simp; (try with_reducible rfl)
      try simp only [Act.put, w1z, w2z, w3z, w4z, w5z, w6z]

      refine wpAnyH_take (i := 9) (v := ?_) rfl (by kernel_rfl) (by kernel_rfl) (by kernel_rfl) (fun _ _ _ h => h) (Or.inl ⟨by rfl, ?_⟩) hS ?_
      rotate_left 1
      ·intro wq hq
       obtain ⟨q0, q1, q2, q3, q4, _⟩ := tx_cells hq.1
       go_simp; (try with_reducible rfl)
      try simp only [Act.put, w1z, w2z, w3z, w4z, w5z, w6z]

      refine wpAnyH_take (i := 10) (v := ?_) rfl (by kernel_rfl) (by kernel_rfl) (by kernel_rfl) (fun _ _ _ h => h) (Or.inl ⟨by rfl, ?_⟩) hS ?_
      rotate_left 1
      ·intro wq hq
       obtain ⟨q0, q1, q2, q3, q4, _⟩ := tx_cells hq.1
       go_simp; (try with_reducible rfl)
      try simp only [Act.put, w1z, w2z, w3z, w4z, w5z, w6z]

      refine wpAnyH_take (i := 11) (v := ?_) rfl (by kernel_rfl) (by kernel_rfl) (by kernel_rfl) (fun _ _ _ h => h) (Or.inl ⟨by rfl, ?_⟩) hS ?_
      rotate_left 1
      ·intro wq hq
       obtain ⟨q0, q1, q2, q3, q4, _⟩ := tx_cells hq.1
       go_simp; (try with_reducible rfl)
      try simp only [Act.put, w1z, w2z, w3z, w4z, w5z, w6z]

      refine wpAnyH_take (i := 12) (v := ?_) rfl (by kernel_rfl) (by kernel_rfl) (by kernel_rfl) (fun _ _ _ h => h) (Or.inl ⟨by rfl, ?_⟩) hS ?_
      rotate_left 1
      ·intro wq hq
       obtain ⟨q0, q1, q2, q3, q4, _⟩ := tx_cells hq.1
       go_simp; (try with_reducible rfl)
      try simp only [Act.put, w1z, w2z, w3z, w4z, w5z, w6z]

      refine wpAnyH_take (i := 13) (v := ?_) rfl (by kernel_rfl) (by kernel_rfl) (by kernel_rfl) (fun _ _ _ h => h) (Or.inl ⟨by rfl, ?_⟩) hS ?_
      rotate_left 1
      ·intro wq hq
       obtain ⟨q0, q1, q2, q3, q4, _⟩ := tx_cells hq.1
       go_simp; (try with_reducible rfl)
      try simp only [Act.put, w1z, w2z, w3z, w4z, w5z, w6z]

      refine wpAnyH_take (i := 14) (v := ?_) rfl (by kernel_rfl) (by kernel_rfl) (by kernel_rfl) (fun _ _ _ h => h) (Or.inl ⟨by rfl, ?_⟩) hS ?_
      rotate_left 1
      ·intro wq hq
       obtain ⟨q0, q1, q2, q3, q4, _⟩ := tx_cells hq.1
       go_simp; (try with_reducible rfl)
      try simp only [Act.put, w1z, w2z, w3z, w4z, w5z, w6z]

      refine wpAnyH_take (i := 15) (v := ?_) rfl (by kernel_rfl) (by kernel_rfl) (by kernel_rfl) (fun _ _ _ h => h) (Or.inl ⟨by rfl, ?_⟩) hS ?_
      rotate_left 1
      ·intro wq hq
       obtain ⟨q0, q1, q2, q3, q4, _⟩ := tx_cells hq.1
       go_simp; (try with_reducible rfl)
      try simp only [Act.put, w1z, w2z, w3z, w4z, w5z, w6z]

      refine wpAnyH_take (i := 16) (v := ?_) rfl (by kernel_rfl) (by kernel_rfl) (by kernel_rfl) (fun _ _ _ h => h) (Or.inl ⟨by rfl, ?_⟩) hS ?_
      rotate_left 1
      ·intro wq hq
       obtain ⟨q0, q1, q2, q3, q4, _⟩ := tx_cells hq.1
       go_simp; (try with_reducible rfl)
      try simp only [Act.put, w1z, w2z, w3z, w4z, w5z, w6z]

      refine wpAnyH_take (i := 17) (v := ?_) rfl (by kernel_rfl) (by kernel_rfl) (by kernel_rfl) (fun _ _ _ h => h) (Or.inl ⟨by rfl, ?_⟩) hS ?_
      rotate_left 1
      ·intro wq hq
       obtain ⟨q0, q1, q2, q3, q4, _⟩ := tx_cells hq.1
       go_simp; (try with_reducible rfl)
      try simp only [Act.put, w1z, w2z, w3z, w4z, w5z, w6z]

      refine wpAnyH_take (i := 18) (v := undef) rfl (by kernel_rfl) (by kernel_rfl) (by kernel_rfl) (fun _ _ _ h => h) (Or.inr ⟨by rfl, rfl⟩) hS ?_
      try simp only [Act.put, w1z, w2z, w3z, w4z, w5z, w6z]

      refine wpAnyH_ready (rs := [19]) (by kernel_rfl) (by simp) ?_
      refine AllReadyH.cons rfl (fun K' hK => ?_) AllReadyH.nil
      go_simp
      refine hK.out _ _ hS (fun hS => ?_)
      clear hK K'
      try simp only [Act.put, w1z, w2z, w3z, w4z, w5z, w6z]

      refine wpAnyH_take (i := 20) (v := undef) rfl (by kernel_rfl) (by kernel_rfl) (by kernel_rfl) (fun _ _ _ h => h) (Or.inr ⟨by rfl, rfl⟩) hS ?_
      try simp only [Act.put, w1z, w2z, w3z, w4z, w5z, w6z]

      refine wpAnyH_take (i := 21) (v := ?_) rfl (by kernel_rfl) (by kernel_rfl) (by kernel_rfl) (fun _ _ _ h => h) (Or.inl ⟨by rfl, ?_⟩) hS ?_
      rotate_left 1
      ·intro wq hq
       obtain ⟨q0, q1, q2, q3, q4, _⟩ := tx_cells hq.1
       go_simp; (try with_reducible rfl)
      try simp only [Act.put, w1z, w2z, w3z, w4z, w5z, w6z]

      refine wpAnyH_take (i := 22) (v := ?_) rfl (by kernel_rfl) (by kernel_rfl) (by kernel_rfl) (fun _ _ _ h => h) (Or.inl ⟨by rfl, ?_⟩) hS ?_
      rotate_left 1
      ·intro wq hq
       obtain ⟨q0, q1, q2, q3, q4, _⟩ := tx_cells hq.1
       go_simp; (try with_reducible rfl)
      try simp only [Act.put, w1z, w2z, w3z, w4z, w5z, w6z]

      refine wpAnyH_take (i := 23) (v := undef) rfl (by kernel_rfl) (by kernel_rfl) (by kernel_rfl) (fun _ _ _ h => h) (Or.inr ⟨by rfl, rfl⟩) hS ?_
      try simp only [Act.put, w1z, w2z, w3z, w4z, w5z, w6z]

      refine wpAnyH_ready (rs := [24]) (by kernel_rfl) (by simp) ?_
      refine AllReadyH.cons rfl (fun K' hK => ?_) AllReadyH.nil
      go_simp
      refine hK.out _ _ hS (fun hS => ?_)
      clear hK K'
      try simp only [Act.put, w1z, w2z, w3z, w4z, w5z, w6z]

      refine wpAnyH_take (i := 25) (v := undef) rfl (by kernel_rfl) (by kernel_rfl) (by kernel_rfl) (fun _ _ _ h => h) (Or.inr ⟨by rfl, rfl⟩) hS ?_
      try simp only [Act.put, w1z, w2z, w3z, w4z, w5z, w6z]

      refine wpAnyH_take (i := 26) (v := ?_) rfl (by kernel_rfl) (by kernel_rfl) (by kernel_rfl) (fun _ _ _ h => h) (Or.inl ⟨by rfl, ?_⟩) hS ?_
      rotate_left 1
      ·intro wq hq
       obtain ⟨q0, q1, q2, q3, q4, _⟩ := tx_cells hq.1
       go_simp; (try with_reducible rfl)
      try simp only [Act.put, w1z, w2z, w3z, w4z, w5z, w6z]

      refine wpAnyH_done (by kernel_rfl) ?_ _
      go_wp2_with fail
      go_meet
      exact ⟨false, rfl, (by show false = decide _; rw [decide_eq_false]; intro h; omega), hS.2⟩

    ·skip
     refine wp_region_held_drew (S := fun w' => TxB w' X s j d' true gr2 ∧ Below wr.heap.size wr w') (by kernel_rfl) ⟨HTX.out.below ((Below.refl _ wr).drew), (Below.refl _ wr).drew⟩ ?_
     intro hS
     change wpAnyH _ _ _ _ _ 27 (Array.replicate 27 false) _ (World.drew _)
     generalize wr.drew = wz at hS ⊢

     refine wpAnyH_take (i := 0) (v := ?_) rfl (by kernel_rfl) (by kernel_rfl) (by kernel_rfl) (fun _ _ _ h => h) (Or.inl ⟨by rfl, ?_⟩) hS ?_
     rotate_left 1
     ·intro wq hq
      obtain ⟨q0, q1, q2, q3, q4, _⟩ := tx_cells hq.1
      go_simp; (try with_reducible rfl)
     try simp only [Act.put, w1z, w2z, w4z, w5z, w6z]

     refine wpAnyH_take (i := 1) (v := ?_) rfl (by kernel_rfl) (by kernel_rfl) (by kernel_rfl) (fun _ _ _ h => h) (Or.inl ⟨by rfl, ?_⟩) hS ?_
     rotate_left 1
     ·intro wq hq
      obtain ⟨q0, q1, q2, q3, q4, _⟩ := tx_cells hq.1
      go_simp; (try with_reducible rfl)
     try simp only [Act.put, w1z, w2z, w3z, w4z, w5z, w6z]

     refine wpAnyH_take (i := 2) (v := ?_) rfl (by kernel_rfl) (by kernel_rfl) (by kernel_rfl) (fun _ _ _ h => h) (Or.inl ⟨by rfl, ?_⟩) hS ?_
     rotate_left 1
     ·intro wq hq
      obtain ⟨q0, q1, q2, q3, q4, _⟩ := tx_cells hq.1
      go_simp; (try with_reducible rfl)
     try simp only [Act.put, w1z, w2z, w3z, w4z, w5z, w6z]

     refine wpAnyH_take (i := 3) (v := ?_) rfl (by kernel_rfl) (by kernel_rfl) (by kernel_rfl) (fun _ _ _ h => h) (Or.inl ⟨by rfl, ?_⟩) hS ?_
     rotate_left 1
     ·intro wq hq
      obtain ⟨q0, q1, q2, q3, q4, _⟩ := tx_cells hq.1
      go_simp; (try with_reducible rfl)
     try simp only [Act.put, w1z, w2z, w3z, w4z, w5z, w6z]

     refine wpAnyH_take (i := 4) (v := ?_) rfl (by kernel_rfl) (by kernel_rfl) (by kernel_rfl) (fun _ _ _ h => h) (Or.inl ⟨by rfl, ?_⟩) hS ?_
     rotate_left 1
     ·intro wq hq
      obtain ⟨q0, q1, q2, q3, q4, _⟩ := tx_cells hq.1
      go_simp; (try with_reducible rfl)
     try simp only [Act.put, w1z, w2z, w3z, w4z, w5z, w6z]

     refine wpAnyH_take (i := 5) (v := ?_) rfl (by kernel_rfl) (by kernel_rfl) (by kernel_rfl) (fun _ _ _ h => h) (Or.inl ⟨by rfl, ?_⟩) hS ?_
     rotate_left 1
     ·intro wq hq
      obtain ⟨q0, q1, q2, q3, q4, _⟩ := tx_cells hq.1
      go_simp; (try with_reducible rfl)
     try simp only [Act.put, w1z, w2z, w3z, w4z, w5z, w6z]

     refine wpAnyH_take (i := 6) (v := undef) rfl (by kernel_rfl) (by kernel_rfl) (by kernel_rfl) (fun _ _ _ h => h) (Or.inr ⟨by rfl, rfl⟩) hS ?_
     try simp only [Act.put, w1z, w2z, w3z, w4z, w5z, w6z]

     refine wpAnyH_take (i := 7) (v := undef) rfl (by kernel_rfl) (by kernel_rfl) (by kernel_rfl) (fun _ _ _ h => h) (Or.inr ⟨by rfl, rfl⟩) hS ?_
     try simp only [Act.put, w1z, w2z, w3z, w4z, w5z, w6z]

     refine wpAnyH_take (i := 8) (v := undef) rfl (by kernel_rfl) (by kernel_rfl) (by kernel_rfl) (fun _ _ _ h => h) (Or.inr ⟨by rfl, rfl⟩) hS ?_
     try simp only [Act.put, w1z, w2z, w3z, w4z, w5z, w6z]

     refine wpAnyH_take (i := 9) (v := undef) rfl (by kernel_rfl) (by kernel_rfl) (by kernel_rfl) (fun _ _ _ h => h) (Or.inr ⟨by rfl, rfl⟩) hS ?_
     try simp only [Act.put, w1z, w2z, w3z, w4z, w5z, w6z]

     refine wpAnyH_take (i := 10) (v := undef) rfl (by kernel_rfl) (by kernel_rfl) (by kernel_rfl) (fun _ _ _ h => h) (Or.inr ⟨by rfl, rfl⟩) hS ?_
     try simp only [Act.put, w1z, w2z, w3z, w4z, w5z, w6z]

     refine wpAnyH_take (i := 11) (v := undef) rfl (by kernel_rfl) (by kernel_rfl) (by kernel_rfl) (fun _ _ _ h => h) (Or.inr ⟨by rfl, rfl⟩) hS ?_
     try simp only [Act.put, w1z, w2z, w3z, w4z, w5z, w6z]

     refine wpAnyH_take (i := 12) (v := undef) rfl (by kernel_rfl) (by kernel_rfl) (by kernel_rfl) (fun _ _ _ h => h) (Or.inr ⟨by rfl, rfl⟩) hS ?_
     try simp only [Act.put, w1z, w2z, w3z, w4z, w5z, w6z]

     refine wpAnyH_take (i := 13) (v := undef) rfl (by kernel_rfl) (by kernel_rfl) (by kernel_rfl) (fun _ _ _ h => h) (Or.inr ⟨by rfl, rfl⟩) hS ?_
     try simp only [Act.put, w1z, w2z, w3z, w4z, w5z, w6z]

     refine wpAnyH_take (i := 14) (v := undef) rfl (by kernel_rfl) (by kernel_rfl) (by kernel_rfl) (fun _ _ _ h => h) (Or.inr ⟨by rfl, rfl⟩) hS ?_
     try simp only [Act.put, w1z, w2z, w3z, w4z, w5z, w6z]

     refine wpAnyH_take (i := 15) (v := undef) rfl (by kernel_rfl) (by kernel_rfl) (by kernel_rfl) (fun _ _ _ h => h) (Or.inr ⟨by rfl, rfl⟩) hS ?_
     try simp only [Act.put, w1z, w2z, w3z, w4z, w5z, w6z]

     refine wpAnyH_take (i := 16) (v := ?_) rfl (by kernel_rfl) (by kernel_rfl) (by kernel_rfl) (fun _ _ _ h => h) (Or.inl ⟨by rfl, ?_⟩) hS ?_
     rotate_left 1
     ·intro wq hq
      obtain ⟨q0, q1, q2, q3, q4, _⟩ := tx_cells hq.1
      go_simp; (try with_reducible rfl)
     try simp only [Act.put, w1z, w2z, w3z, w4z, w5z, w6z]

     refine wpAnyH_take (i := 17) (v := ?_) rfl (by kernel_rfl) (by kernel_rfl) (by kernel_rfl) (fun _ _ _ h => h) (Or.inl ⟨by rfl, ?_⟩) hS ?_
     rotate_left 1
     ·intro wq hq
      obtain ⟨q0, q1, q2, q3, q4, _⟩ := tx_cells hq.1
      go_simp; (try with_reducible rfl)
     try simp only [Act.put, w1z, w2z, w3z, w4z, w5z, w6z]

     refine wpAnyH_take (i := 18) (v := undef) rfl (by kernel_rfl) (by kernel_rfl) (by kernel_rfl) (fun _ _ _ h => h) (Or.inr ⟨by rfl, rfl⟩) hS ?_
     try simp only [Act.put, w1z, w2z, w3z, w4z, w5z, w6z]

     refine wpAnyH_ready (rs := [19]) (by kernel_rfl) (by simp) ?_
     refine AllReadyH.cons rfl (fun K' hK => ?_) AllReadyH.nil
     go_simp
     refine hK.out _ _ hS (fun hS => ?_)
     clear hK K'
     try simp only [Act.put, w1z, w2z, w3z, w4z, w5z, w6z]

     refine wpAnyH_take (i := 20) (v := undef) rfl (by kernel_rfl) (by kernel_rfl) (by kernel_rfl) (fun _ _ _ h => h) (Or.inr ⟨by rfl, rfl⟩) hS ?_
     try simp only [Act.put, w1z, w2z, w3z, w4z, w5z, w6z]

     refine wpAnyH_take (i := 21) (v := ?_) rfl (by kernel_rfl) (by kernel_rfl) (by kernel_rfl) (fun _ _ _ h => h) (Or.inl ⟨by rfl, ?_⟩) hS ?_
     rotate_left 1
     ·intro wq hq
      obtain ⟨q0, q1, q2, q3, q4, _⟩ := tx_cells hq.1
      go_simp; (try with_reducible rfl)
     try simp only [Act.put, w1z, w2z, w3z, w4z, w5z, w6z]

     refine wpAnyH_take (i := 22) (v := ?_) rfl (by kernel_rfl) (by kernel_rfl) (by kernel_rfl) (fun _ _ _ h => h) (Or.inl ⟨by rfl, ?_⟩) hS ?_
     rotate_left 1
     ·intro wq hq
      obtain ⟨q0, q1, q2, q3, q4, _⟩ := tx_cells hq.1
      go_simp; (try with_reducible rfl)
     try simp only [Act.put, w1z, w2z, w3z, w4z, w5z, w6z]

     refine wpAnyH_take (i := 23) (v := undef) rfl (by kernel_rfl) (by kernel_rfl) (by kernel_rfl) (fun _ _ _ h => h) (Or.inr ⟨by rfl, rfl⟩) hS ?_
     try simp only [Act.put, w1z, w2z, w3z, w4z, w5z, w6z]

     refine wpAnyH_ready (rs := [24]) (by kernel_rfl) (by simp) ?_
     refine AllReadyH.cons rfl (fun K' hK => ?_) AllReadyH.nil
     go_simp
     refine hK.out _ _ hS (fun hS => ?_)
     clear hK K'
     try simp only [Act.put, w1z, w2z, w3z, w4z, w5z, w6z]

     refine wpAnyH_take (i := 25) (v := undef) rfl (by kernel_rfl) (by kernel_rfl) (by kernel_rfl) (fun _ _ _ h => h) (Or.inr ⟨by rfl, rfl⟩) hS ?_
     try simp only [Act.put, w1z, w2z, w3z, w4z, w5z, w6z]

     refine wpAnyH_take (i := 26) (v := ?_) rfl (by kernel_rfl) (by kernel_rfl) (by kernel_rfl) (fun _ _ _ h => h) (Or.inl ⟨by rfl, ?_⟩) hS ?_
     rotate_left 1
     ·intro wq hq
      obtain ⟨q0, q1, q2, q3, q4, _⟩ := tx_cells hq.1
      go_simp; (try with_reducible rfl)
     try simp only [Act.put, w1z, w2z, w3z, w4z, w5z, w6z]

     refine wpAnyH_done (by kernel_rfl) ?_ _
     go_wp2_with fail
     go_meet
     exact ⟨false, rfl, (by show false = decide _; rw [decide_eq_false]; intro h; cases h.1), hS.2⟩

   case rest =>
    obtain ⟨c, rfl, HC, HB⟩ := hcut
    have HJ2 := zh (HJ.out.below hXl HB.out)
    clear HJ HB HTX
    obtain ⟨i0, hi0, hz0, hz1, hz2⟩ := info_parts Tryz.info36'
    have HI0 := zh hi0; have HZ0 := zh hz0; have HZ1 := zh hz1; have HZ2 := zh hz2
    have HZS := zh (show (Value.agg (RfC 0 noB (.slice none 0 0)).toArray).cells.size = 258 by simp [Value.cells, noB_l])
    clear hi0 hz0 hz1 hz2
    cases c
    ·skip
     obtain ⟨ca, cl, Q, hm⟩ := HJ2.out.m
     obtain ⟨A, cap, hvl, hcap, hA⟩ := hm.pairs
     have hlw := HJ2.out.lw
     have HP := zh (pair_r 2 .cat MkK.cat row Q wc A row.length cap cl rfl hcap hm.rl hA)
     have HM := zh hm.drop.swap
     have HTXc := zh hm.tx
     clear hm hcap hA
     subst hvl
     go_wp2_with fail
     refine HP.out.mono ?_
     rintro e w3 ⟨cs, rfl, hq, hb3⟩
     have HQ := zh hq; have HB3 := zh hb3
     have HOL := zh ((own_kept HM.out.ol (Kb.of_below (fun _ => False) hb3) (fun _ _ h => h)).alloc (.cells cs.toArray 36))
     have hw3 : w.heap.size + 1 ≤ w3.heap.size := Nat.le_trans (lt_of_heap HM.out.res) hb3.size
     have HLN := zh (show cs.length = 1 * 258 by rw [hq.len])
     clear hq hb3 HP
     go_wp2_with (first | (refine bs1 rfl _ rfl cs rfl HQ.out.len ?_) | (at_builtin; refine wpList_append_lies _ rfl _ _ 25 rfl (w.heap.size + 1) 36 i0 _ 258 288 Tryz.underlying25 HI0.out HZ0.out HZ1.out HZ2.out HZS.out (by omega) va ways.length ca rfl HOL.out ⟨w3.heap.size, 0, none⟩ 1 1 cs rfl HLN.out (World.news_of_block (cs := cs.toArray) (t := 36) (fr := (0, 0)) (heap_alloc_new w3 _)) HQ.out.rf.one (by omega) (by unfold maxLen; omega) (by omega) (by simp; omega) (w3.heap.size + 1) (by simp) ?_))
     intro g cap6 w6 hown6 hgrow6 hat6 hlt6

     have HM6 := zh (HM.out.add hXl (Kb.of_below _ HB3.out) (HTXc.out.below HB3.out) HQ.out hown6 hgrow6 hat6)
     clear hown6 hgrow6 hat6 hlt6 HQ HB3 HOL HM HTXc
     obtain ⟨c0, c1, c2, c3, c4, cf⟩ := tx_cells HM6.out.tx
     have f1 := cf 1; have f4 := cf 4
     clear cf
     go_upto_region 6 with fail
     go_cut [51] (fun v wx => ∃ c2, v = .bool c2 ∧ Hid (c2 = (bad || !decide (nx s.data.toList j = 124))) ∧ Hid (Below w6.heap.size w6 wx))
     case first =>
      have HSE := zh (sees_any w6 X s j 124 d' bad gr2 HM6.out.tx hjs (by omega) (by omega))
      cases bad
      ·go_wp2_with fail
       refine HSE.out.mono ?_
       rintro e w7 ⟨rfl, ht7, hb7⟩
       have HB7 := zh hb7
       clear ht7 hb7
       go_wp2_with fail
       go_meet
       exact ⟨_, rfl, rfl, HB7.out⟩
      ·go_wp2_with fail
       go_meet
       exact ⟨_, rfl, rfl, Below.refl _ _⟩
     case rest =>
      obtain ⟨c2', rfl, HC2, HB7⟩ := hcut
      have HM7 := zh (HM6.out.below hXl HB7.out)
      clear HM6 HB7 c0 c1 c2 c3 c4 f1 f4
      obtain ⟨c0, c1, c2, c3, c4, cf⟩ := tx_cells HM7.out.tx
      have f1 := cf 1; have f4 := cf 4
      clear cf
      cases c2'
      ·obtain ⟨rfl, h124⟩ : bad = false ∧ nx s.data.toList j = 124 := by
        have h1 := HC2.out
        cases bad
        ·exact ⟨rfl, by simpa using h1⟩
        ·simp at h1
       have hjl := nx_in h124 (by omega)
       obtain ⟨o1, o2, o3, o4, o5⟩ := HJ2.out.ok rfl
       subst o2
       obtain ⟨j1, hj1⟩ : ∃ j1, j1 = j + 1 := ⟨_, rfl⟩
       have p1 : IntKind.i64.wrap ((j : Int) + 1) = (j1 : Int) := by rw [hj1, IntWalk.i64_in _ (by omega)]; omega
       have hsw := HJ2.out.sw
       have hia1 := HJ2.out.ia1
       have hcz : (catR row).size ≤ 1000 * (j - ia) + 1 := by
        by_cases hr : row = []
        ·rw [hr]; show 1 ≤ _; omega
        ·have := catR_sz row hr
         omega
       have HF := zh (show OrI w X s d i great (.slice (some ⟨g, 0, none⟩) (ways.length + 1) cap6) (.slice none 0 0) (wc.setCell ⟨X, 1, none⟩ (.int .i64 j1)) d j1 j1 false gr2 (ways ++ [catR row]) [] from ⟨⟨_, _, _, HM7.out.swap.txk hXl (Kb.setCell wc ⟨X, 1, none⟩ _) (HM7.out.tx.at' j1)⟩, by omega, by omega, by omega, HJ2.out.gr, by rw [szs_append, szs_cons, szs_nil, List.length_append]; show _ + 998 * (ways.length + 1) ≤ _; omega, by rw [List.length_append]; show ways.length + 1 ≤ _; omega, by simp, (fun _ => ⟨by rw [hj1]; exact o1.bar h124 hd, rfl, Nat.le_refl _, by simp [szs], by simp⟩), (fun h => by cases h)⟩)
       have hkf : s.size + 1 ≤ kO + j1 := by omega
       clear o1 hj1 HC HC2 h124 HM7 HJ2
       go_wp2_with fail
       go_roundg kO
       case measure => omega
       case rel => exact ⟨j1, gr2, ways ++ [catR row], HF.out, hkf⟩
      ·skip

       have HSZ := zh HJ2.out.size
       have HEND := zh (show bad = false → j = s.size ∨ nx s.data.toList j = 41 from fun hb => by
        have h1 := HC.out
        have h2 := HC2.out
        subst hb
        have hn : nx s.data.toList j ≠ 124 := by simpa using h2
        have h3 := of_decide_eq_false h1.symm
        by_cases hlt : j < s.size
        ·by_cases h41 : nx s.data.toList j = 41
         ·exact .inr h41
         ·exact absurd ⟨rfl, hlt, hn, h41⟩ h3
        ·left; omega)
       obtain ⟨A, cap7, hva, hcap, hA⟩ := HM7.out.pairs
       injection hva with e1 e2 e3
       subst e1
       subst e3
       have HP3 := zh (pair_r 3 .or MkK.or (ways ++ [nest .cat .empty row]) _ wc (some ⟨g, 0, none⟩) (ways.length + 1) cap6 (ca ++ cs) (by simp) (by rw [e2]; exact hcap) HM7.out.rl hA)
       clear hcap hA e2 HC HC2
       go_wp2_with fail
       refine HP3.out.mono ?_
       rintro e w8 ⟨cs8, rfl, hq8, hb8⟩
       have HF9 := zh (show FnS w X s ((w8.alloc (.cells Tryz.zeroCells36 36)).setRow w8.heap.size cs8.toArray) d' j bad gr2 (orR (ways ++ [catR row])) cs8 w8.heap.size from HM7.out.box hXl (by rw [show orR (ways ++ [catR row]) = nest .or .empty (ways ++ [nest .cat .empty row]) from nest_ne _ _ _ _ (by simp)]; exact hq8) hb8)
       have HQ8 := zh hq8
       have HAL := zh (alloc_res w8)
       clear hq8 hb8 HP3 c0 c1 c2 c3 c4 f1 f4
       go_upto_region 8 with (refine st30o rfl rfl _ _ rfl w8.heap.size cs8 (RfC 0 noB (.slice none 0 0)) rfl rfl HAL.out (noB_l _ _) HQ8.out.len HQ8.out.rf.one ?_)
       generalize (w8.alloc (.cells Tryz.zeroCells36 36)).setRow w8.heap.size cs8.toArray = w9 at HF9 ⊢
       clear HAL HQ8 HM7
       generalize w8.heap.size = B at HF9 ⊢
       obtain ⟨c0, c1, c2, c3, c4, cf⟩ := tx_cells HF9.out.tx
       have f4 := cf 4
       clear cf
       obtain ⟨rr, hrr⟩ : ∃ rr, rr = orR (ways ++ [catR row]) := ⟨_, rfl⟩
       have hzb : rr.size ≤ 1000000 := by
        rw [hrr]
        cases bad
        ·have := HSZ.out.1 rfl; omega
        ·have := HSZ.out.2 rfl; omega
       have HRR := zh hrr
       rw [← hrr] at HF9
       clear hrr
       cases gr2
       ·have HSI := zh (rsize_any rr.size rr (Nat.le_refl _) hzb w9 cs8 HF9.out.rf.rf)
        obtain ⟨z, hz⟩ : ∃ z, z = rr.size := ⟨_, rfl⟩
        rw [← hz] at HSI
        have HZ := zh hz
        have HIN := zh (show (Tryz.prog.info? 36).map (·.size) = some cs8.length by rw [HF9.out.rf.len]; exact Tryz.info36)
        clear hz
        go_wp2_with fail
        refine wp_load_mid 36 (.tmp 5) rfl B 0 rfl cs8 _ (row_range HF9.out.nd) Tryz.underlying36 rfl HIN.out ?_
        go_wp2_with fail
        refine HSI.out.mono ?_
        rintro e w10 ⟨rfl, hb10⟩
        have HF10 := zh (HF9.out.below hXl hb10)
        clear hb10 HF9 HSI c0 c1 c2 c3 c4 f4
        obtain ⟨c0, c1, c2, c3, c4, cf⟩ := tx_cells HF10.out.tx
        have f4 := cf 4
        clear cf
        have HF11 := zh (fun v : Bool => HF10.out.txk hXl (Kb.setCell w10 ⟨X, 4, none⟩ (.bool v)) (HF10.out.tx.great' v))
        by_cases h400 : 400 < z
        ·have hzi : (400 : Int) < z := by omega
         have HG := zh (show true = true → false = true ∨ 400 < (orR (ways ++ [catR row])).size from fun _ => .inr (by rw [← HRR.out, ← HZ.out]; exact h400))
         have HF12 := zh (HF11.out true)
         clear HF11
         go_upto_region 9 with fail
         generalize w10.setCell ⟨X, 4, none⟩ (.bool true) = w11 at HF12 ⊢
         clear c0 c1 c2 c3 c4 f4
         go_wp2_with (first | (refine ld30 rfl _ rfl B 0 cs8 rfl (row_range HF12.out.nd) HF12.out.rf.len ?_) | (refine st30o rfl rfl _ _ rfl w.heap.size cs8 (RfC 0 (bls fun _ => false) (.slice none 0 0)) rfl rfl HF12.out.res (rf_len _) HF12.out.rf.len HF12.out.rf.rf.one ?_))
         refine bodyPost_ret (results_nd rfl _ _ w.heap.size cs8 (0, 0) rfl (HF12.out.fin hXl).2.2.1 HF12.out.rf.len) rfl ?_
         exact HJ2.out.to hXl HLL.out HEND.out (B := B) (by rw [← HRR.out]; exact HF12.out) (fun _ => HG.out (by first | rfl | trivial))
        ·have hzi : ¬ (400 : Int) < z := by omega
         have hzd : decide ((400 : Int) < z) = false := decide_eq_false hzi
         have HF12 := zh (HF11.out false)
         clear HF11
         go_upto_region 9 with fail
         generalize w10.setCell ⟨X, 4, none⟩ (.bool false) = w11 at HF12 ⊢
         clear c0 c1 c2 c3 c4 f4
         go_wp2_with (first | (refine ld30 rfl _ rfl B 0 cs8 rfl (row_range HF12.out.nd) HF12.out.rf.len ?_) | (refine st30o rfl rfl _ _ rfl w.heap.size cs8 (RfC 0 (bls fun _ => false) (.slice none 0 0)) rfl rfl HF12.out.res (rf_len _) HF12.out.rf.len HF12.out.rf.rf.one ?_))
         refine bodyPost_ret (results_nd rfl _ _ w.heap.size cs8 (0, 0) rfl (HF12.out.fin hXl).2.2.1 HF12.out.rf.len) rfl ?_
         exact HJ2.out.to hXl HLL.out HEND.out (B := B) (by rw [← HRR.out]; exact HF12.out) (fun h => by cases h)
       ·have HF12 := zh (HF9.out.txk hXl (Kb.setCell w9 ⟨X, 4, none⟩ (.bool true)) (HF9.out.tx.great' true))
        go_upto_region 9 with fail
        generalize w9.setCell ⟨X, 4, none⟩ (.bool true) = w11 at HF12 ⊢
        clear c0 c1 c2 c3 c4 f4 HF9
        go_wp2_with (first | (refine ld30 rfl _ rfl B 0 cs8 rfl (row_range HF12.out.nd) HF12.out.rf.len ?_) | (refine st30o rfl rfl _ _ rfl w.heap.size cs8 (RfC 0 (bls fun _ => false) (.slice none 0 0)) rfl rfl HF12.out.res (rf_len _) HF12.out.rf.len HF12.out.rf.rf.one ?_))
        refine bodyPost_ret (results_nd rfl _ _ w.heap.size cs8 (0, 0) rfl (HF12.out.fin hXl).2.2.1 HF12.out.rf.len) rfl ?_
        exact HJ2.out.to hXl HLL.out HEND.out (B := B) (by rw [← HRR.out]; exact HF12.out) (fun _ => .inl rfl)
    ·skip
     obtain ⟨hbf, hlt, h124, h41⟩ := of_decide_eq_true HC.out.symm
     subst hbf
     obtain ⟨o1, o2, o3, o4, o5⟩ := HJ2.out.ok rfl
     subst o2
     obtain ⟨ca, cl, Q, hm⟩ := HJ2.out.m
     have hia1 := HJ2.out.ia1
     have hrl := HJ2.out.lr
     have hkk := HK2.out rfl
     have HCA := zh (HFAC.out j (by omega) hlt wc X gr2 d hm.tx hlt h124 h41 hd)
     have HM := zh hm
     clear o1 hm HC h124 h41
     go_wp2_with fail
     refine HCA.out.mono ?_
     rintro e w3 ⟨r, cs, gr3, rfl, hq, hk, hgr, hcase⟩
     have HQ := zh hq; have HK := zh hk; have HGR := zh hgr; have HCS := zh hcase
     have HOL := zh ((own_kept HM.out.ol hk (fun g h he => by have := (HM.out.ol.lt g h).1; omega)).alloc (.cells cs.toArray 36))
     have hw3 : w.heap.size + 1 ≤ w3.heap.size := Nat.le_trans (lt_of_heap HM.out.res) hk.size
     have HLN := zh (show cs.length = 1 * 258 by rw [hq.len])
     clear hq hk hgr hcase HCA
     go_wp2_with (first | (refine bs1 rfl _ rfl cs rfl HQ.out.len ?_) | (at_builtin; refine wpList_append_lies _ rfl _ _ 25 rfl (w.heap.size + 1) 36 i0 _ 258 288 Tryz.underlying25 HI0.out HZ0.out HZ1.out HZ2.out HZS.out (by omega) vl row.length cl rfl HOL.out ⟨w3.heap.size, 0, none⟩ 1 1 cs rfl HLN.out (World.news_of_block (cs := cs.toArray) (t := 36) (fr := (0, 0)) (heap_alloc_new w3 _)) HQ.out.rf.one (by omega) (by unfold maxLen; omega) (by omega) (by simp; omega) (w3.heap.size + 1) (by simp) ?_))
     intro g cap6 w6 hown6 hgrow6 hat6 hlt6

     have hN := HJ2.out.fac hd (w6 := w6) (v6 := .slice (some ⟨g, 0, none⟩) (row.length + 1) cap6) (r := r) HGR.out (HCS.out.imp (fun ⟨j2, hf, hj, hj2, hr, ht⟩ => ⟨j2, hf, hj, hj2, hr, _, _, _, HM.out.add hXl HK.out ht (HQ.out.mono (fun _ _ h => .inr h)) hown6 hgrow6 hat6⟩) (fun ⟨j2, d2, hj2, hr, ht, hdd⟩ => ⟨j2, d2, hj2, hr, ⟨_, _, _, HM.out.add hXl HK.out ht (HQ.out.mono (fun _ _ h => .inr h)) hown6 hgrow6 hat6⟩, hdd⟩))
     obtain ⟨d2, j2, bad2, hN1, hjj⟩ := hN
     have HN1 := zh hN1; have HJJ := zh hjj
     clear hN1 hjj hown6 hgrow6 hat6 hlt6 HCS HGR HQ HK HM HOL
     go_wp2_with fail
     go_roundg (gk - 1)
     case measure => omega
     case rel => exact ⟨d2, j2, bad2, gr3, row ++ [r], HN1.out, fun hb => by have := HJJ.out hb; omega⟩
end Go.Proofs.YtejdfpieblkapaaGreatDoor

/- Carried from another seat. -/
namespace Go.Proofs.YtejdfpieblkapaaGreatDoor
open Lib renaming hid → zh
open List renaming getElem_toArray → w1z, getElem_cons_zero → w2z, getElem_cons_succ → w3z, setIfInBounds_toArray → w4z, set_cons_zero → w5z, set_cons_succ → w6z
open Go.RowKit Go.Shelf

theorem or_all (s : ByteArray) (hs : s.size ≤ 300) : ∀ n i, s.size < n + i → OrOk s i
 | 0, i, h => fun _ _ _ _ _ hi _ => absurd hi (by omega)
 | n + 1, i, h => or_r s i hs (fun j hij hj => factor_r s j hs (or_all s hs n (j + 1) (by omega)))
def PaR (s : ByteArray) (w : World) (e : Ending) (w' : World) : Prop := Below w.heap.size w w' ∧ ∃ (cs : List Value) (bad : Int) (gr : Bool), e = .returned (.tuple #[.agg cs.toArray, .int .i64 bad, .bool gr]) ∧ cs.length = 258 ∧ (∀ v ∈ cs, v.oneCell' = true) ∧ ((∃ r, parseF s.data.toList = some r ∧ r.size ≤ 400 ∧ bad = -1 ∧ gr = false ∧ RfQ (fun k => w.heap.size ≤ k) w' r cs) ∨ (parseF s.data.toList = none ∧ (0 ≤ bad ∨ gr = true)))
theorem results_nd3 {fn : Func} {p u v : Tmp} (h : fn.results = #[.cell p 36, .tmp u, .tmp v]) (tmps : Array Value) (w : World) (g : Nat) (cs : List Value) (fr : Nat × Nat) (hp : tmps.getD p undef = .pointer (some ⟨g, 0, none⟩)) (hg : w.heap[g]? = some (.cells cs.toArray 36 fr)) (hl : cs.length = 258) :
  (results fn tmps).run Tryz.prog w = .ok (.tuple #[.agg cs.toArray, tmps.getD u undef, tmps.getD v undef]) w := by
 have hp' : tmps[p]?.getD undef = .pointer (some ⟨g, 0, none⟩) := by simpa using hp
 simp [results, h, hp', asAddr, run_loadVar_row w g 36 36 cs.toArray fr _ hg Tryz.underlying36 rfl (by rw [Tryz.info36]; simp [hl])]
theorem yields_bd0 {ops : Array Oper} {S : World → Prop} {o : Oper} {a : Act} (hw : Region.wanted o (yielded ops a.tmps) = true) (ho : o.op = .build 36 #[]) : YieldsIf Tryz.prog ops S o (.agg (RfC 0 noB (.slice none 0 0)).toArray) a :=
 .inl ⟨hw, fun w _ => by
  unfold execOp
  have := run_build (P := Tryz.prog) w 36 ((#[] : Array (Nat × Operand)).map fun (i, x) => (i, a.eval x)) (RfC 0 noB (.slice none 0 0)).toArray (by rw [parts0]; exact built30z)
  simp only [ho, Sem.run_bind, this, Result.andThen_ok]
  rfl⟩

set_option maxRecDepth 100000 in
set_option maxHeartbeats 1000000 in
theorem rparse_r (s : ByteArray) (w : World) (hs : s.size ≤ 300) : Calls Tryz.prog 46 #[.string s] w (PaR s w) := by
 have hlenL : s.data.toList.length = s.size := by rw [← Lib.size_eq]
 have hsz1 : (w.alloc (.cells Tryz.zeroCells36 36)).heap.size = w.heap.size + 1 := by simp
 have hb2 : Below w.heap.size w ((w.alloc (.cells Tryz.zeroCells36 36)).alloc (.cells #[.string s, .int .i64 0, .int .i64 0, .bool false, .bool false] 131)) := ((Below.refl _ w).alloc (Nat.le_refl _) _).alloc (by simp) _
 have ht2 : TxB ((w.alloc (.cells Tryz.zeroCells36 36)).alloc (.cells #[.string s, .int .i64 0, .int .i64 0, .bool false, .bool false] 131)) (w.heap.size + 1) s 0 ((0 : Nat) : Int) false false := by
  have := heap_alloc_new (w.alloc (.cells Tryz.zeroCells36 36)) (.cells #[.string s, .int .i64 0, .int .i64 0, .bool false, .bool false] 131)
  rw [hsz1] at this
  exact this
 have hR2 : ((w.alloc (.cells Tryz.zeroCells36 36)).alloc (.cells #[.string s, .int .i64 0, .int .i64 0, .bool false, .bool false] 131)).heap[w.heap.size]? = some (.cells (RfC 0 noB (.slice none 0 0)).toArray 36 (0, 0)) := (Below.heap_alloc _ _ _ (by simp)).trans (alloc_res w)
 have HCA := zh (or_all s hs (s.size + 1) 0 (by omega) _ (w.heap.size + 1) false 0 ht2 (Nat.zero_le _) (by omega))
 have H2 := zh (And.intro hR2 hb2); have HLL := zh hlenL
 clear hsz1 hb2 ht2 hR2 hlenL
 go_enter Tryz.func46, Tryz.ntmps46
 go_wp2_with fail
 generalize (w.alloc (.cells Tryz.zeroCells36 36)).alloc (.cells #[.string s, .int .i64 0, .int .i64 0, .bool false, .bool false] 131) = w2 at HCA H2 ⊢
 refine HCA.out.mono ?_
 rintro e w3 ⟨r, cs, gr, rfl, hq, hk, hgr, hcase⟩
 clear HCA
 have hb3 : Below w.heap.size w w3 := H2.out.2.trans (hk.below H2.out.2.size (fun i hi => by omega))
 have hR3 := (hk.block w.heap.size (lt_of_heap H2.out.1) (by omega)).trans H2.out.1
 have HAL := zh (alloc_res w3)
 have hal : Below w3.heap.size w3 (w3.alloc (.cells Tryz.zeroCells36 36)) := (Below.refl _ w3).alloc (Nat.le_refl _) _
 have k4 : Kb (fun i => i = w3.heap.size) w3 ((w3.alloc (.cells Tryz.zeroCells36 36)).setRow w3.heap.size cs.toArray) := (Kb.of_below _ hal).trans (setRow_kb _ _ _) (fun _ _ h => h)
 have hb4 : Below w.heap.size w ((w3.alloc (.cells Tryz.zeroCells36 36)).setRow w3.heap.size cs.toArray) := hb3.trans (k4.below hb3.size (fun i hi => by have := hb3.size; omega))
 have hR4 := (k4.block w.heap.size (lt_of_heap hR3) (by have := lt_of_heap hR3; omega)).trans hR3
 have hN4 : ((w3.alloc (.cells Tryz.zeroCells36 36)).setRow w3.heap.size cs.toArray).heap[w3.heap.size]? = some (.cells cs.toArray 36 (0, 0)) := setRow_heap _ _ _ _ 36 (0, 0) (alloc_res w3)
 have hw2 : w.heap.size + 1 ≤ w2.heap.size := lt_of_heap H2.out.1
 have hV4 : RfQ (fun k => w.heap.size + 1 ≤ k) ((w3.alloc (.cells Tryz.zeroCells36 36)).setRow w3.heap.size cs.toArray) r cs := (hq.keep k4 (fun i hi _ he => by omega)).mono (fun i _ h => by omega)
 have hT4 : ∀ {j : Nat} {d : Int} {bad : Bool}, TxB w3 (w.heap.size + 1) s j d bad gr → TxB ((w3.alloc (.cells Tryz.zeroCells36 36)).setRow w3.heap.size cs.toArray) (w.heap.size + 1) s j d bad gr := fun h => (k4.block _ (lt_of_heap h) (by have := lt_of_heap h; omega)).trans h
 have HQ := zh hq
 have HLE := zh hq.len
 obtain ⟨j, D, bad, hT, hjs, hok, hbad, hrs⟩ : ∃ (j : Nat) (D : Int) (bad : Bool), TxB ((w3.alloc (.cells Tryz.zeroCells36 36)).setRow w3.heap.size cs.toArray) (w.heap.size + 1) s j D bad gr ∧ j ≤ s.size ∧ (bad = false → OrP s.data.toList 0 [] 0 r j ∧ (j = s.size ∨ nx s.data.toList j = 41)) ∧ (bad = true → parseF s.data.toList = none) ∧ r.size ≤ 1000000 := by
  rcases hcase with ⟨j, h1, _, h3, h4, h5, h6⟩ | ⟨j, D, h1, h2, h3, h4⟩
  ·exact ⟨j, _, false, hT4 h6, h3, (fun _ => ⟨h1, h4⟩), (fun h => by cases h), by omega⟩
  ·exact ⟨j, D, true, hT4 h3, h1, (fun h => by cases h), (fun _ => h4.parse), by omega⟩
 have HOK := zh hok; have HBD := zh hbad
 have HGR := zh (show gr = true → parseF s.data.toList = none from fun h => by
  rcases hgr h with h | h | h
  ·cases h
  ·exact h.parse
  ·cases bad with
   | true => exact hbad rfl
   | false =>
    obtain ⟨h1, h2⟩ := hok rfl
    rcases h2 with h2 | h2
    ·subst h2; rw [← HLL.out] at h1; exact h1.great h
    ·exact h1.close h2)
 have H4 := zh (And.intro hT (And.intro hR4 (And.intro hN4 (And.intro hV4 hb4))))
 clear hq hk hgr hcase hb3 hR3 hal k4 hb4 hR4 hN4 hV4 hT4 hT hok hbad H2
 go_upto_region 3 with (refine st30o rfl rfl _ _ rfl w3.heap.size cs (RfC 0 noB (.slice none 0 0)) rfl rfl HAL.out (noB_l _ _) HLE.out HQ.out.rf.one ?_)
 generalize (w3.alloc (.cells Tryz.zeroCells36 36)).setRow w3.heap.size cs.toArray = w4 at H4 ⊢
 generalize w3.heap.size = B at H4 ⊢
 clear HAL HQ
 obtain ⟨c0, c1, c2, c3, c4, cf⟩ := tx_cells H4.out.1
 clear cf
 cases gr
 ·cases bad
  ·rcases Nat.lt_or_ge j s.size with hlt | hge
   ·have hji : (j : Int) < s.size := by omega
    have HNO := zh (show parseF s.data.toList = none from (HOK.out rfl).1.close ((HOK.out rfl).2.resolve_left (by omega)))
    go_upto_region 6 with fail
    refine wp_region_held_drew (S := fun w' => TxB w' (w.heap.size + 1) s j D false false ∧ w'.heap[w.heap.size]? = some (.cells (RfC 0 noB (.slice none 0 0)).toArray 36 (0, 0)) ∧ Below w.heap.size w w') (by kernel_rfl) ⟨H4.out.1.below ((Below.refl _ w4).drew), (((Below.refl _ w4).drew).block _ (lt_of_heap H4.out.2.1)).trans H4.out.2.1, H4.out.2.2.2.2.drew⟩ ?_
    intro hS
    change wpAnyH _ _ _ _ _ 8 (Array.replicate 8 false) _ (World.drew _)
    generalize w4.drew = wz at hS ⊢
    refine wpAnyH_take (i := 0) rfl (by kernel_rfl) (by kernel_rfl) (by kernel_rfl) (fun _ _ _ h => h) (yields_bd0 (by rfl) rfl) hS ?_
    try simp only [Act.put, w1z, w2z, w4z, w5z, w6z]

    refine wpAnyH_take (i := 1) (v := ?_) rfl (by kernel_rfl) (by kernel_rfl) (by kernel_rfl) (fun _ _ _ h => h) (Or.inl ⟨by rfl, ?_⟩) hS ?_
    rotate_left 1
    ·intro wq hq
     obtain ⟨q0, q1, q2, q3, q4, _⟩ := tx_cells hq.1
     go_simp; (try with_reducible rfl)
    try simp only [Act.put, w1z, w2z, w3z, w4z, w5z, w6z]

    refine wpAnyH_take (i := 2) (v := ?_) rfl (by kernel_rfl) (by kernel_rfl) (by kernel_rfl) (fun _ _ _ h => h) (Or.inl ⟨by rfl, ?_⟩) hS ?_
    rotate_left 1
    ·intro wq hq
     obtain ⟨q0, q1, q2, q3, q4, _⟩ := tx_cells hq.1
     go_simp; (try with_reducible rfl)
    try simp only [Act.put, w1z, w2z, w3z, w4z, w5z, w6z]

    refine wpAnyH_take (i := 3) (v := ?_) rfl (by kernel_rfl) (by kernel_rfl) (by kernel_rfl) (fun _ _ _ h => h) (Or.inl ⟨by rfl, ?_⟩) hS ?_
    rotate_left 1
    ·intro wq hq
     obtain ⟨q0, q1, q2, q3, q4, _⟩ := tx_cells hq.1
     go_simp; (try with_reducible rfl)
    try simp only [Act.put, w1z, w2z, w3z, w4z, w5z, w6z]

    refine wpAnyH_take (i := 4) (v := ?_) rfl (by kernel_rfl) (by kernel_rfl) (by kernel_rfl) (fun _ _ _ h => h) (Or.inl ⟨by rfl, ?_⟩) hS ?_
    rotate_left 1
    ·intro wq hq
     obtain ⟨q0, q1, q2, q3, q4, _⟩ := tx_cells hq.1
     go_simp; (try with_reducible rfl)
    try simp only [Act.put, w1z, w2z, w3z, w4z, w5z, w6z]

    refine wpAnyH_ready (rs := [5]) (by kernel_rfl) (by simp) ?_
    refine AllReadyH.cons rfl (fun K' hK => ?_) AllReadyH.nil
    rw [if_pos (by rfl)]
    refine wp_st30 (.tmp 2) (.tmp 30) rfl w.heap.size (RfC 0 noB (.slice none 0 0)) _ rfl rfl hS.2.1 (noB_l _ _) (noB_l _ _) (noB_one _ _ _ _) ?_
    have kz := setRow_kb wz w.heap.size (RfC 0 noB (.slice none 0 0)).toArray
    have hz1 : (wz.setRow w.heap.size (RfC 0 noB (.slice none 0 0)).toArray).heap[w.heap.size]? = some (.cells (RfC 0 noB (.slice none 0 0)).toArray 36 (0, 0)) := setRow_heap _ _ _ _ 36 (0, 0) hS.2.1
    have hz2 : Below w.heap.size w (wz.setRow w.heap.size (RfC 0 noB (.slice none 0 0)).toArray) := hS.2.2.trans (kz.below hS.2.2.size (fun i hi => by omega))
    refine hK.out _ _ ⟨(kz.block _ (lt_of_heap hS.1) (by omega)).trans hS.1, hz1, hz2⟩ (fun hS => ?_)
    clear hK K' kz hz1 hz2
    generalize wz.setRow w.heap.size (RfC 0 noB (.slice none 0 0)).toArray = wy at hS ⊢
    try simp only [Act.put, w1z, w2z, w3z]

    refine wpAnyH_take (i := 6) (v := ?_) rfl (by kernel_rfl) (by kernel_rfl) (by kernel_rfl) (fun _ _ _ h => h) (Or.inl ⟨by rfl, ?_⟩) hS ?_
    rotate_left 1
    ·intro wq hq
     obtain ⟨q0, q1, q2, q3, q4, _⟩ := tx_cells hq.1
     go_simp; (try with_reducible rfl)
    try simp only [Act.put, w1z, w2z, w3z, w4z, w5z, w6z]

    refine wpAnyH_take (i := 7) (v := ?_) rfl (by kernel_rfl) (by kernel_rfl) (by kernel_rfl) (fun _ _ _ h => h) (Or.inl ⟨by rfl, ?_⟩) hS ?_
    rotate_left 1
    ·intro wq hq
     obtain ⟨q0, q1, q2, q3, q4, _⟩ := tx_cells hq.1
     go_simp; (try with_reducible rfl)
    try simp only [Act.put, w1z, w2z, w3z, w4z, w5z, w6z]

    refine wpAnyH_done (by kernel_rfl) ?_ _
    have HS := zh hS
    clear hS
    go_wp2_with fail
    refine bodyPost_ret (results_nd3 rfl _ _ w.heap.size (RfC 0 noB (.slice none 0 0)) (0, 0) rfl HS.out.2.1 (noB_l _ _)) rfl ?_
    exact ⟨HS.out.2.2, _, _, _, rfl, noB_l _ _, noB_one _ _ _ _, .inr ⟨HNO.out, .inl (by omega)⟩⟩

   ·obtain rfl : j = s.size := by omega
    have hjd : decide ((s.size : Int) < s.size) = false := by simp
    have HSI := zh (rsize_any r.size r (Nat.le_refl _) hrs w4 cs H4.out.2.2.2.1.rf)
    obtain ⟨z, hz⟩ : ∃ z, z = r.size := ⟨_, rfl⟩
    rw [← hz] at HSI
    have HZ := zh hz
    have HOP := zh (show OrP s.data.toList 0 [] 0 r s.data.toList.length by rw [HLL.out]; exact (HOK.out rfl).1)
    clear hz
    go_upto_region 7 with fail
    go_wp2_with (refine ld30 rfl _ rfl B 0 cs rfl (row_range H4.out.2.2.1) HLE.out ?_)
    refine HSI.out.mono ?_
    rintro e w5 ⟨rfl, hb5⟩
    have HZW := zh (show w5.heap[w.heap.size]? = some (.cells (RfC 0 noB (.slice none 0 0)).toArray 36 (0, 0)) ∧ Below w.heap.size w w5 from ⟨(hb5.block _ (lt_of_heap H4.out.2.1)).trans H4.out.2.1, below_tr H4.out.2.2.2.2 hb5 H4.out.2.2.2.2.size⟩)
    have HN5 := zh ((hb5.block _ (lt_of_heap H4.out.2.2.1)).trans H4.out.2.2.1)
    have HV5 := zh (H4.out.2.2.2.1.keep (Kb.of_below (fun _ => False) hb5) (fun _ _ _ h => h))
    clear hb5 HSI c0 c1 c2 c3 c4 H4
    by_cases h400 : 400 < z
    ·have hzi : (400 : Int) < z := by omega
     have HNO := zh (HOP.out.great (by rw [← HZ.out]; exact h400))
     go_wp2_with (first | (refine bd0 rfl rfl ?_) | (refine st30o rfl rfl _ _ rfl w.heap.size (RfC 0 noB (.slice none 0 0)) (RfC 0 noB (.slice none 0 0)) rfl rfl HZW.out.1 (noB_l _ _) (noB_l _ _) (noB_one _ _ _ _) ?_))
     refine bodyPost_ret (results_nd3 rfl _ _ w.heap.size (RfC 0 noB (.slice none 0 0)) (0, 0) rfl (setRow_heap _ _ _ _ 36 (0, 0) HZW.out.1) (noB_l _ _)) rfl ?_
     exact ⟨HZW.out.2.trans ((setRow_kb _ w.heap.size _).below HZW.out.2.size (fun i hi => by omega)), _, _, _, rfl, noB_l _ _, noB_one _ _ _ _, .inr ⟨HNO.out, .inr rfl⟩⟩

    ·have hzi : ¬ (400 : Int) < z := by omega
     have hzd : decide ((400 : Int) < z) = false := decide_eq_false hzi
     have HYES := zh (HOP.out.parse (by rw [← HZ.out]; omega))
     have HSZ := zh (show r.size ≤ 400 by rw [← HZ.out]; omega)
     go_wp2_with (first | (refine ld30 rfl _ rfl B 0 cs rfl (row_range HN5.out) HLE.out ?_) | (refine st30o rfl rfl _ _ rfl w.heap.size cs (RfC 0 noB (.slice none 0 0)) rfl rfl HZW.out.1 (noB_l _ _) HLE.out HV5.out.rf.one ?_))
     refine bodyPost_ret (results_nd3 rfl _ _ w.heap.size cs (0, 0) rfl (setRow_heap _ _ _ _ 36 (0, 0) HZW.out.1) HLE.out) rfl ?_
     exact ⟨HZW.out.2.trans ((setRow_kb _ w.heap.size _).below HZW.out.2.size (fun i hi => by omega)), _, _, _, rfl, HLE.out, HV5.out.rf.one, .inl ⟨r, HYES.out, HSZ.out, rfl, rfl, (HV5.out.keep (setRow_kb w5 w.heap.size cs.toArray) (fun i _ h he => by omega)).mono (fun i _ h => by omega)⟩⟩
  ·have HNO := zh (HBD.out rfl)
   go_upto_region 6 with fail
   refine wp_region_held_drew (S := fun w' => TxB w' (w.heap.size + 1) s j D true false ∧ w'.heap[w.heap.size]? = some (.cells (RfC 0 noB (.slice none 0 0)).toArray 36 (0, 0)) ∧ Below w.heap.size w w') (by kernel_rfl) ⟨H4.out.1.below ((Below.refl _ w4).drew), (((Below.refl _ w4).drew).block _ (lt_of_heap H4.out.2.1)).trans H4.out.2.1, H4.out.2.2.2.2.drew⟩ ?_
   intro hS
   change wpAnyH _ _ _ _ _ 8 (Array.replicate 8 false) _ (World.drew _)
   generalize w4.drew = wz at hS ⊢
   refine wpAnyH_take (i := 0) rfl (by kernel_rfl) (by kernel_rfl) (by kernel_rfl) (fun _ _ _ h => h) (yields_bd0 (by rfl) rfl) hS ?_
   try simp only [Act.put, w1z, w2z, w4z, w5z, w6z]

   refine wpAnyH_take (i := 1) (v := ?_) rfl (by kernel_rfl) (by kernel_rfl) (by kernel_rfl) (fun _ _ _ h => h) (Or.inl ⟨by rfl, ?_⟩) hS ?_
   rotate_left 1
   ·intro wq hq
    obtain ⟨q0, q1, q2, q3, q4, _⟩ := tx_cells hq.1
    go_simp; (try with_reducible rfl)
   try simp only [Act.put, w1z, w2z, w3z, w4z, w5z, w6z]

   refine wpAnyH_take (i := 2) (v := ?_) rfl (by kernel_rfl) (by kernel_rfl) (by kernel_rfl) (fun _ _ _ h => h) (Or.inl ⟨by rfl, ?_⟩) hS ?_
   rotate_left 1
   ·intro wq hq
    obtain ⟨q0, q1, q2, q3, q4, _⟩ := tx_cells hq.1
    go_simp; (try with_reducible rfl)
   try simp only [Act.put, w1z, w2z, w3z, w4z, w5z, w6z]

   refine wpAnyH_take (i := 3) (v := ?_) rfl (by kernel_rfl) (by kernel_rfl) (by kernel_rfl) (fun _ _ _ h => h) (Or.inl ⟨by rfl, ?_⟩) hS ?_
   rotate_left 1
   ·intro wq hq
    obtain ⟨q0, q1, q2, q3, q4, _⟩ := tx_cells hq.1
    go_simp; (try with_reducible rfl)
   try simp only [Act.put, w1z, w2z, w3z, w4z, w5z, w6z]

   refine wpAnyH_take (i := 4) (v := ?_) rfl (by kernel_rfl) (by kernel_rfl) (by kernel_rfl) (fun _ _ _ h => h) (Or.inl ⟨by rfl, ?_⟩) hS ?_
   rotate_left 1
   ·intro wq hq
    obtain ⟨q0, q1, q2, q3, q4, _⟩ := tx_cells hq.1
    go_simp; (try with_reducible rfl)
   try simp only [Act.put, w1z, w2z, w3z, w4z, w5z, w6z]

   refine wpAnyH_ready (rs := [5]) (by kernel_rfl) (by simp) ?_
   refine AllReadyH.cons rfl (fun K' hK => ?_) AllReadyH.nil
   rw [if_pos (by rfl)]
   refine wp_st30 (.tmp 2) (.tmp 30) rfl w.heap.size (RfC 0 noB (.slice none 0 0)) _ rfl rfl hS.2.1 (noB_l _ _) (noB_l _ _) (noB_one _ _ _ _) ?_
   have kz := setRow_kb wz w.heap.size (RfC 0 noB (.slice none 0 0)).toArray
   have hz1 : (wz.setRow w.heap.size (RfC 0 noB (.slice none 0 0)).toArray).heap[w.heap.size]? = some (.cells (RfC 0 noB (.slice none 0 0)).toArray 36 (0, 0)) := setRow_heap _ _ _ _ 36 (0, 0) hS.2.1
   have hz2 : Below w.heap.size w (wz.setRow w.heap.size (RfC 0 noB (.slice none 0 0)).toArray) := hS.2.2.trans (kz.below hS.2.2.size (fun i hi => by omega))
   refine hK.out _ _ ⟨(kz.block _ (lt_of_heap hS.1) (by omega)).trans hS.1, hz1, hz2⟩ (fun hS => ?_)
   clear hK K' kz hz1 hz2
   generalize wz.setRow w.heap.size (RfC 0 noB (.slice none 0 0)).toArray = wy at hS ⊢
   try simp only [Act.put, w1z, w2z, w3z]

   refine wpAnyH_take (i := 6) (v := ?_) rfl (by kernel_rfl) (by kernel_rfl) (by kernel_rfl) (fun _ _ _ h => h) (Or.inl ⟨by rfl, ?_⟩) hS ?_
   rotate_left 1
   ·intro wq hq
    obtain ⟨q0, q1, q2, q3, q4, _⟩ := tx_cells hq.1
    go_simp; (try with_reducible rfl)
   try simp only [Act.put, w1z, w2z, w3z, w4z, w5z, w6z]

   refine wpAnyH_take (i := 7) (v := ?_) rfl (by kernel_rfl) (by kernel_rfl) (by kernel_rfl) (fun _ _ _ h => h) (Or.inl ⟨by rfl, ?_⟩) hS ?_
   rotate_left 1
   ·intro wq hq
    obtain ⟨q0, q1, q2, q3, q4, _⟩ := tx_cells hq.1
    go_simp; (try with_reducible rfl)
   try simp only [Act.put, w1z, w2z, w3z, w4z, w5z, w6z]

   refine wpAnyH_done (by kernel_rfl) ?_ _
   have HS := zh hS
   clear hS
   go_wp2_with fail
   refine bodyPost_ret (results_nd3 rfl _ _ w.heap.size (RfC 0 noB (.slice none 0 0)) (0, 0) rfl HS.out.2.1 (noB_l _ _)) rfl ?_
   exact ⟨HS.out.2.2, _, _, _, rfl, noB_l _ _, noB_one _ _ _ _, .inr ⟨HNO.out, .inl (by omega)⟩⟩

 ·have HNO := zh (HGR.out rfl)
  have HZW := zh (And.intro H4.out.2.1 H4.out.2.2.2.2)
  go_upto_region 4 with fail
  go_wp2_with (first | (refine bd0 rfl rfl ?_) | (refine st30o rfl rfl _ _ rfl w.heap.size (RfC 0 noB (.slice none 0 0)) (RfC 0 noB (.slice none 0 0)) rfl rfl HZW.out.1 (noB_l _ _) (noB_l _ _) (noB_one _ _ _ _) ?_))
  refine bodyPost_ret (results_nd3 rfl _ _ w.heap.size (RfC 0 noB (.slice none 0 0)) (0, 0) rfl (setRow_heap _ _ _ _ 36 (0, 0) HZW.out.1) (noB_l _ _)) rfl ?_
  exact ⟨HZW.out.2.trans ((setRow_kb _ w.heap.size _).below HZW.out.2.size (fun i hi => by omega)), _, _, _, rfl, noB_l _ _, noB_one _ _ _ _, .inr ⟨HNO.out, .inr rfl⟩⟩

end Go.Proofs.YtejdfpieblkapaaGreatDoor
