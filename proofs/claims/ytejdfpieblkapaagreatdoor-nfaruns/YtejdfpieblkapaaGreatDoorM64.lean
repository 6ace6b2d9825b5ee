/- Carried from another seat. -/
import Derived.Test.YtejdfpieblkapaaGreatDoorM63
import Derived.Deep.DeepCutAuto
import Derived.Deep.CutBlock
namespace Go.Proofs.YtejdfpieblkapaaGreatDoor
open Go.RowKit Go.Shelf

theorem FcS.cast {w : World} {X : Nat} {s : ByteArray} {wr : World} {d : Int} {j : Nat} {bad great : Bool} {r : Rx} {cs cs' : List Value} (H : FcS w X s wr d j bad great r cs) (e : cs = cs') : FcS w X s wr d j bad great r cs' := e ▸ H
theorem FcS.rset {w : World} {X : Nat} {s : ByteArray} {wr : World} {d : Int} {j : Nat} {bad great : Bool} {u u' : Ws} {f : Nat → Bool} (H : FcS w X s wr d j bad great (.set u) (RfC 0 (bls f) (.slice none 0 0))) (h : ∀ m, m < 256 → f m = u'.hasN m) : FcS w X s wr d j bad great (.set u') (RfC 0 (bls f) (.slice none 0 0)) := ⟨H.tx, H.res, H.nd, (by show _ = _; rw [bls_ext h]; rfl), H.kb⟩
theorem st30n {ops : Array Oper} {rest : List Oper} {o : Oper} {a : Act} {w : World} {Q : Exit → Act → World → Prop} (hg : o.guard = none) (hd : o.dst = none) (x y : Operand) (ho : o.op = .store 36 x y) (g : Nat) (cs old : List Value) (hx : a.eval x = .pointer (some ⟨g, 0, none⟩)) (hy : a.eval y = .agg cs.toArray) (hb : w.heap[g]? = some (.cells old.toArray 36 (0, 0))) (hold : old.length = 258) (hl : cs.length = 258) (h1 : ∀ v ∈ cs, v.oneCell' = true)
    (h : wpList Tryz.prog ops Q rest a (w.setRow g cs.toArray)) : wpList Tryz.prog ops Q (o :: rest) a w := st30 hg x y ho g cs old hx hy hb hold hl h1 (by rw [hd]; exact h)
theorem bs2n {ops : Array Oper} {rest : List Oper} {o : Oper} {a : Act} {w : World} {Q : Exit → Act → World → Prop} (hg : o.guard = none) (x y : Operand) (ho : o.op = .buildSlice 25 2 #[(0, x), (1, y)]) (N : Nat) (hN : w.heap.size = N) (cx cy : List Value) (hx : a.eval x = .agg cx.toArray) (hy : a.eval y = .agg cy.toArray) (hlx : cx.length = 258) (hly : cy.length = 258)
    (h : wpList Tryz.prog ops Q rest (a.put o.dst (.slice (some ⟨N, 0, none⟩) 2 2)) (w.alloc (.cells (cx ++ cy).toArray 36))) : wpList Tryz.prog ops Q (o :: rest) a w := by
  subst hN
  exact bs2 hg x y ho cx cy hx hy hlx hly h
theorem atomF_let {L : List UInt8} {i : Nat} (h46 : nx L i ≠ 46) (h91 : nx L i ≠ 91) : atomF L i = (letF OUT L i).map fun x => (btw x.1 1, x.2) := by unfold atomF; rw [if_neg h46, if_neg h91]
theorem atomF_cls {L : List UInt8} {i : Nat} (h91 : nx L i = 91) : atomF L i = classF L (i + 1) := by unfold atomF; rw [if_neg (by omega), if_pos h91]
theorem atomF_dot {L : List UInt8} {i : Nat} (h46 : nx L i = 46) : atomF L i = some ((btw 10 1).inv 4, i + 1) := by unfold atomF; rw [if_pos h46]

set_option maxRecDepth 100000 in
set_option maxHeartbeats 1000000 in
theorem factor_r (s : ByteArray) (i : Nat) (hs : s.size ≤ 300) (hor : OrOk s (i + 1)) : FacOk s i := by
  intro w X great d h hi h124 h41 hd
  have hXl := lt_of_heap h
  have hlenL : s.data.toList.length = s.size := by rw [← Lib.size_eq]
  have hsz1 : (w.alloc (.cells Tryz.zeroCells36 36)).heap.size = w.heap.size + 1 := by simp
  have hN : ((w.alloc (.cells Tryz.zeroCells36 36)).alloc (.cells Tryz.zeroCells36 36)).heap[w.heap.size + 1]? = some (.cells (RfC 0 noB (.slice none 0 0)).toArray 36 (0, 0)) := by
    have := heap_alloc_new (w.alloc (.cells Tryz.zeroCells36 36)) (.cells Tryz.zeroCells36 36)
    rw [hsz1, zero30] at this
    rw [zero30]; exact this
  have hR : ((w.alloc (.cells Tryz.zeroCells36 36)).alloc (.cells Tryz.zeroCells36 36)).heap[w.heap.size]? = some (.cells (RfC 0 noB (.slice none 0 0)).toArray 36 (0, 0)) :=
    (Below.heap_alloc (w.alloc (.cells Tryz.zeroCells36 36)) (.cells Tryz.zeroCells36 36) w.heap.size (by simp)).trans (alloc_res w)
  have hb : Below w.heap.size w ((w.alloc (.cells Tryz.zeroCells36 36)).alloc (.cells Tryz.zeroCells36 36)) := ((Below.refl _ w).alloc (Nat.le_refl _) _).alloc (by simp) _
  have hC1 : FcS w X s (((w.alloc (.cells Tryz.zeroCells36 36)).alloc (.cells Tryz.zeroCells36 36)).setRow (w.heap.size + 1) (RfC 0 noB (.slice none 0 0)).toArray) d i false great (.set ws0) (RfC 0 (bls fun _ => false) (.slice none 0 0)) := by
    have kb := setRow_kb ((w.alloc (.cells Tryz.zeroCells36 36)).alloc (.cells Tryz.zeroCells36 36)) (w.heap.size + 1) (RfC 0 noB (.slice none 0 0)).toArray
    have t1 := h.below hb
    exact ⟨(kb.block X (lt_of_heap t1) (by omega)).trans t1, (kb.block _ (lt_of_heap hR) (by omega)).trans hR, setRow_heap _ _ _ _ 36 (0, 0) hN, (by show _ = _; rw [bls_ext (fun k hk => (ws0_has k hk).symm)]; rfl), (Kb.of_below _ hb).trans kb (fun i hi h => by omega)⟩
  have HN := Lib.hid hN; have HC1 := Lib.hid hC1; have HLL := Lib.hid hlenL
  clear hN hR hb hC1 h hsz1 hlenL
  go_enter Tryz.func118, Tryz.ntmps118
  go_upto_block 0 with (first | (refine bd0 rfl rfl ?_) | (refine st30n rfl rfl _ _ rfl (w.heap.size + 1) (RfC 0 noB (.slice none 0 0)) (RfC 0 noB (.slice none 0 0)) rfl rfl HN.out (rf_len _) (rf_len _) (rf_one _) ?_))
  generalize ((w.alloc (.cells Tryz.zeroCells36 36)).alloc (.cells Tryz.zeroCells36 36)).setRow (w.heap.size + 1) (RfC 0 noB (.slice none 0 0)).toArray = w1 at HC1 ⊢
  clear HN
  obtain ⟨i1, hi1⟩ : ∃ i1, i1 = i + 1 := ⟨_, rfl⟩
  have hii1 : i < i1 := by omega
  have hi1s : i1 ≤ s.size := by omega
  have hi1n : i1 ≤ i + 1 := by omega
  have p1 : IntKind.i64.wrap ((i : Int) + 1) = (i1 : Int) := by rw [hi1, IntWalk.i64_in _ (by omega)]; omega
  have HI1 := Lib.hid hi1
  clear hi1
  go_cut [] (fun wx => ∃ d' j bad gr r cs, Hid (FcL w X s d i great wx d' j bad gr r cs))
  case first =>
    have HSE := Lib.hid (sees_any w1 X s i 40 d false great HC1.out.tx (by omega) (by omega) (by omega))
    go_wp2_with fail
    refine HSE.out.mono ?_
    rintro e w2 ⟨rfl, ht2, hb2⟩
    have HC2 := Lib.hid (HC1.out.below hb2)
    clear ht2 hb2 HSE HC1
    by_cases h40 : nx s.data.toList i = 40
    · skip
      rw [decide_eq_true h40]
      obtain ⟨d1, hd1⟩ : ∃ d1, d1 = d + 1 := ⟨_, rfl⟩
      have p2 : IntKind.i64.wrap ((d : Int) + 1) = (d1 : Int) := by rw [hd1, IntWalk.i64_in _ (by omega)]; omega
      have HD1 := Lib.hid hd1
      have hd1n : d1 ≤ 51 := by omega
      clear hd1
      obtain ⟨c0, c1, c2, c3, c4, cf⟩ := tx_cells HC2.out.tx
      have f1 := cf 1; have f2 := cf 2; have f3 := cf 3; have f4 := cf 4
      clear cf

      have HC3 := Lib.hid ((HC2.out.txk hXl (Kb.setCell w2 ⟨X, 1, none⟩ (.int .i64 i1)) (HC2.out.tx.at' i1)).txk hXl (Kb.setCell (w2.setCell ⟨X, 1, none⟩ (.int .i64 i1)) ⟨X, 2, none⟩ (.int .i64 d1)) ((HC2.out.tx.at' i1).deep' d1))
      by_cases h50 : d1 = 51
      · have hd51 : (50 : Int) < (d1 : Int) := by omega
        have HDD := Lib.hid (FDead.deep (L := s.data.toList) (d := d) h40 (by have := HD1.out; omega))
        clear h50
        have HRR := Lib.hid (show FcL w X s d i great ((((w2.setCell ⟨X, 1, none⟩ (.int .i64 i1)).setCell ⟨X, 2, none⟩ (.int .i64 d1)).setCell ⟨X, 4, none⟩ (.bool true)).setCell ⟨X, 3, none⟩ (.bool true)) d1 i1 true true (.set ws0) (RfC 0 (bls fun _ => false) (.slice none 0 0)) from ⟨(HC3.out.txk hXl (Kb.setCell _ ⟨X, 4, none⟩ (.bool true)) (HC3.out.tx.great' true)).txk hXl (Kb.setCell _ ⟨X, 3, none⟩ (.bool true)) ((HC3.out.tx.great' true).bad' true), hi1s, (fun _ => .inr HDD.out), (fun h => by cases h), (fun _ => ⟨HDD.out, by show 1 ≤ _; omega⟩)⟩)
        clear HC2 HC3
        go_upto_region 9 with fail
        generalize (((w2.setCell ⟨X, 1, none⟩ (.int .i64 i1)).setCell ⟨X, 2, none⟩ (.int .i64 d1)).setCell ⟨X, 4, none⟩ (.bool true)).setCell ⟨X, 3, none⟩ (.bool true) = w9 at HRR ⊢
        clear c0 c1 c2 c3 c4 f1 f2 f3 f4
        go_wp2_with (first | (refine ld30 rfl _ rfl (w.heap.size + 1) 0 (RfC 0 (bls fun _ => false) (.slice none 0 0)) rfl (row_range HRR.out.st.nd) HRR.out.st.rf.len ?_) | (refine st30n rfl rfl _ _ rfl w.heap.size (RfC 0 (bls fun _ => false) (.slice none 0 0)) (RfC 0 (bls fun _ => false) (.slice none 0 0)) rfl rfl HRR.out.st.res (rf_len _) HRR.out.st.rf.len HRR.out.st.rf.rf.one ?_))
        refine bodyPost_ret (results_nd rfl _ _ w.heap.size (RfC 0 (bls fun _ => false) (.slice none 0 0)) (0, 0) rfl (HRR.out.st.fin hXl).2.2.1 HRR.out.st.rf.len) rfl ?_
        exact HRR.out.to hXl (fun h => by cases h)

      · have hd51 : ¬ (50 : Int) < (d1 : Int) := by omega
        have hd1l : d1 ≤ 50 := by omega
        have hd51b : decide ((50 : Int) < (d1 : Int)) = false := decide_eq_false hd51
        clear h50
        have HCA := Lib.hid (hor ((w2.setCell ⟨X, 1, none⟩ (.int .i64 i1)).setCell ⟨X, 2, none⟩ (.int .i64 d1)) X great d1 (by rw [← HI1.out]; exact HC3.out.tx) (by omega) hd1l)
        go_wp2_with fail
        generalize (w2.setCell ⟨X, 1, none⟩ (.int .i64 i1)).setCell ⟨X, 2, none⟩ (.int .i64 d1) = w3 at HC3 HCA ⊢
        clear c0 c1 c2 c3 c4 f1 f2 f3 f4
        refine HCA.out.mono ?_
        rintro e w4 ⟨r0, cs0, gr, rfl, hq, hk, hgr, hcase⟩
        clear HCA HC2
        have hN3 : w.heap.size + 2 ≤ w3.heap.size := lt_of_heap HC3.out.nd
        have hq2 : RfQ (fun k => w.heap.size + 2 ≤ k) w4 r0 cs0 := hq.mono (fun k _ h => by omega)
        have HNd4 := Lib.hid ((hk.block (w.heap.size + 1) (lt_of_heap HC3.out.nd) (by omega)).trans HC3.out.nd)
        have HQ2 := Lib.hid hq2; have HGR := Lib.hid hgr
        have HK := Lib.hid hk
        clear hq hq2 hgr hk
        rcases hcase with ⟨j, hop, hij, hjs, hend, hsz, ht⟩ | ⟨j, d', hjs, hsz, ht, hod⟩
        · have HC4 := Lib.hid ((HC3.out.txk hXl HK.out ht).put hXl HQ2.out)
          have HOP := Lib.hid hop; have HEND := Lib.hid hend
          have HGD := Lib.hid (fun (hc : nx s.data.toList j = 41) => show gr = true → great = true ∨ FDead s.data.toList d i from fun hg => by
            have hlt : d < 50 := by have := HD1.out; omega
            have hop' := HOP.out
            rw [HD1.out] at hop'
            rcases HGR.out hg with h | h | h
            · exact .inl h
            · rw [HD1.out] at h; exact .inr (FDead.within h40 h)
            · exact .inr (FDead.great h40 hlt hop' hc h))
          clear hop hend ht HC3
          go_upto_region 11 with (refine st30n rfl rfl _ _ rfl (w.heap.size + 1) cs0 (RfC 0 (bls fun _ => false) (.slice none 0 0)) rfl rfl HNd4.out (rf_len _) HQ2.out.len HQ2.out.rf.one ?_)
          generalize w4.setRow (w.heap.size + 1) cs0.toArray = w5 at HC4 ⊢
          clear HNd4 HK
          obtain ⟨c0, c1, c2, c3, c4, cf⟩ := tx_cells HC4.out.tx
          have f1 := cf 1; have f2 := cf 2; have f3 := cf 3; have f4 := cf 4
          clear cf
          have HSE := Lib.hid (sees_any w5 X s j 41 d1 false gr HC4.out.tx hjs (by omega) (by omega))
          go_wp2_with fail
          refine HSE.out.mono ?_
          rintro e w6 ⟨rfl, ht6, hb6⟩
          have HC6 := Lib.hid (HC4.out.below hb6)
          clear ht6 hb6 HSE HC4
          clear c0 c1 c2 c3 c4 f1 f2 f3 f4
          obtain ⟨c0, c1, c2, c3, c4, cf⟩ := tx_cells HC6.out.tx
          have f1 := cf 1; have f2 := cf 2; have f3 := cf 3; have f4 := cf 4
          clear cf
          by_cases hc : nx s.data.toList j = 41
          · rw [decide_eq_true hc]
            have hjl := nx_in hc (by omega)
            obtain ⟨j1, hj1⟩ : ∃ j1, j1 = j + 1 := ⟨_, rfl⟩
            have p3 : IntKind.i64.wrap ((j : Int) + 1) = (j1 : Int) := by rw [hj1, IntWalk.i64_in _ (by omega)]; omega
            have p4 : IntKind.i64.wrap ((d1 : Int) - 1) = (d : Int) := by have := HD1.out; rw [IntWalk.i64_in _ (by omega)]; omega
            have hlt : d < 50 := by have := HD1.out; omega
            have HFF := Lib.hid (show FcL w X s d i great ((w6.setCell ⟨X, 1, none⟩ (.int .i64 j1)).setCell ⟨X, 2, none⟩ (.int .i64 d)) d j1 false gr r0 cs0 from ⟨(HC6.out.txk hXl (Kb.setCell w6 ⟨X, 1, none⟩ (.int .i64 j1)) (HC6.out.tx.at' j1)).txk hXl (Kb.setCell _ ⟨X, 2, none⟩ (.int .i64 d)) ((HC6.out.tx.at' j1).deep' d), by omega, HGD.out hc, (fun _ => ⟨by
              have hop' := HOP.out
              rw [HD1.out] at hop'
              rw [hj1]; exact FacS.group h40 hlt hop' hc, rfl, by omega, by omega⟩), (fun h => by cases h)⟩)
            clear hc hj1 HGD HOP HEND
            go_wp2_with fail
            go_meet
            exact ⟨_, _, _, _, _, _, HFF.out⟩
          · rw [decide_eq_false hc]
            have HRR := Lib.hid (show FcL w X s d i great (w6.setCell ⟨X, 3, none⟩ (.bool true)) d1 j true gr r0 cs0 from by
              have hje : j = s.size := HEND.out.resolve_right hc
              have hlt : d < 50 := by have := HD1.out; omega
              have hop' := HOP.out
              rw [HD1.out, hje, ← HLL.out] at hop'
              have hdd := FDead.unshut h40 hlt hop'
              exact ⟨HC6.out.txk hXl (Kb.setCell w6 ⟨X, 3, none⟩ (.bool true)) (HC6.out.tx.bad' true), hjs, (fun _ => .inr hdd), (fun h => by cases h), (fun _ => ⟨hdd, by omega⟩)⟩)
            clear hc HGD HOP HEND
            go_upto_region 15 with fail
            generalize w6.setCell ⟨X, 3, none⟩ (.bool true) = w9 at HRR ⊢
            clear c0 c1 c2 c3 c4 f1 f2 f3 f4
            go_wp2_with (first | (refine ld30 rfl _ rfl (w.heap.size + 1) 0 cs0 rfl (row_range HRR.out.st.nd) HRR.out.st.rf.len ?_) | (refine st30n rfl rfl _ _ rfl w.heap.size cs0 (RfC 0 (bls fun _ => false) (.slice none 0 0)) rfl rfl HRR.out.st.res (rf_len _) HRR.out.st.rf.len HRR.out.st.rf.rf.one ?_))
            refine bodyPost_ret (results_nd rfl _ _ w.heap.size cs0 (0, 0) rfl (HRR.out.st.fin hXl).2.2.1 HRR.out.st.rf.len) rfl ?_
            exact HRR.out.to hXl (fun h => by cases h)

        · have HC4 := Lib.hid ((HC3.out.txk hXl HK.out ht).put hXl HQ2.out)
          have HRR := Lib.hid (show FcL w X s d i great (w4.setRow (w.heap.size + 1) cs0.toArray) d' j true gr r0 cs0 from by
            have hdd : FDead s.data.toList d i := FDead.within h40 (by have := hod; rw [HD1.out] at this; exact this)
            exact ⟨HC4.out, hjs, (fun _ => .inr hdd), (fun h => by cases h), (fun _ => ⟨hdd, by omega⟩)⟩)
          clear ht HC3 hod HGR
          obtain ⟨c0, c1, c2, c3, c4, cf⟩ := tx_cells HC4.out.tx
          have f1 := cf 1; have f2 := cf 2; have f3 := cf 3; have f4 := cf 4
          clear cf
          go_upto_region 12 with (refine st30n rfl rfl _ _ rfl (w.heap.size + 1) cs0 (RfC 0 (bls fun _ => false) (.slice none 0 0)) rfl rfl HNd4.out (rf_len _) HQ2.out.len HQ2.out.rf.one ?_)
          generalize w4.setRow (w.heap.size + 1) cs0.toArray = w9 at HRR ⊢
          clear c0 c1 c2 c3 c4 f1 f2 f3 f4
          go_wp2_with (first | (refine ld30 rfl _ rfl (w.heap.size + 1) 0 cs0 rfl (row_range HRR.out.st.nd) HRR.out.st.rf.len ?_) | (refine st30n rfl rfl _ _ rfl w.heap.size cs0 (RfC 0 (bls fun _ => false) (.slice none 0 0)) rfl rfl HRR.out.st.res (rf_len _) HRR.out.st.rf.len HRR.out.st.rf.rf.one ?_))
          refine bodyPost_ret (results_nd rfl _ _ w.heap.size cs0 (0, 0) rfl (HRR.out.st.fin hXl).2.2.1 HRR.out.st.rf.len) rfl ?_
          exact HRR.out.to hXl (fun h => by cases h)

    · rw [decide_eq_false h40]
      have HSE := Lib.hid (sees_any w2 X s i 46 d false great HC2.out.tx (by omega) (by omega) (by omega))
      go_wp2_with fail
      refine HSE.out.mono ?_
      rintro e w3 ⟨rfl, ht3, hb3⟩
      have HC3 := Lib.hid (HC2.out.below hb3)
      clear ht3 hb3 HSE
      by_cases h46 : nx s.data.toList i = 46
      · skip
        rw [decide_eq_true h46]
        obtain ⟨c0, c1, c2, c3, c4, cf⟩ := tx_cells HC3.out.tx
        have f1 := cf 1; have f2 := cf 2; have f3 := cf 3; have f4 := cf 4
        clear cf

        have HC4 := Lib.hid (HC3.out.txk hXl (Kb.setCell w3 ⟨X, 1, none⟩ (.int .i64 i1)) (HC3.out.tx.at' i1))
        have HAF := Lib.hid (atomF_dot h46)
        clear h46 HC2
        go_wp2_with fail
        generalize w3.setCell ⟨X, 1, none⟩ (.int .i64 i1) = w4 at HC4 ⊢
        clear c0 c1 c2 c3 c4 f1 f2 f3 f4
        go_loopw [4] (fun v wr => ∃ (k : Nat) (u : Ws), k ≤ 256 ∧ v = .int .i64 k ∧ Hid (FcS w X s wr d i1 false great (.set u) (RfC 0 (bls fun m => decide (m < k ∧ m ≠ 10)) (.slice none 0 0)))) (fun v _ => 256 - (intOf v).toNat)
        case atStart => exact ⟨0, ws0, by omega, rfl, HC4.out.cast (by rw [bls_ext (f := fun _ => false) (g := fun m => decide (m < 0 ∧ m ≠ 10)) (fun m _ => by simp)])⟩
        case round =>
          obtain ⟨k, u, hk, rfl, HW⟩ := hrel
          rcases Nat.lt_or_ge k 256 with hlt | hge
          · have hki : (k : Int) < 256 := by omega
            have hk0 : (0 : Int) ≤ k := by omega
            obtain ⟨z1, z2⟩ := RfB.cell (f := fun m => decide (m < k ∧ m ≠ 10)) HW.out.nd hlt
            have HFin := Lib.hid (fun (v : Bool) (hv : v = decide (k ≠ 10)) => (show ∃ u', FcS w X s (wr.setCell ⟨w.heap.size + 1, 1 + k, none⟩ (.bool v)) d i1 false great (.set u') (RfC 0 (bls fun m => decide (m < k + 1 ∧ m ≠ 10)) (.slice none 0 0)) from by
              obtain ⟨u', hu'⟩ := ws_of (fun m => if m = k then v else decide (m < k ∧ m ≠ 10))
              refine ⟨u', (HW.out.set hXl hlt v hu').cast ?_⟩
              rw [bls_ext (fun m _ => ?_)]
              by_cases e : m = k
              · subst e; rw [if_pos rfl, hv, Bool.eq_iff_iff]; simp
              · rw [if_neg e, Bool.eq_iff_iff]; simp; omega))
            go_wp2
            go_roundw
            case rel =>
              obtain ⟨u', hu'⟩ := HFin.out ((k : Int) != 10) (by by_cases e : k = 10 <;> simp [e] <;> omega)
              exact ⟨k + 1, u', by omega, by go_num, hu'⟩
            case measure => simp [intOf]; omega
          · obtain rfl : k = 256 := by omega
            have HFF := Lib.hid (show FcL w X s d i great wr d i1 false great (.set ((btw 10 1).inv 4)) (RfC 0 (bls fun m => decide (m < 256 ∧ m ≠ 10)) (.slice none 0 0)) from ⟨HW.out.rset (fun m hm => by rw [dot_has m hm, Bool.eq_iff_iff]; simp; omega), hi1s, (fun h => .inl h), (fun _ => ⟨by rw [HI1.out]; exact FacS.atom HAF.out hd, rfl, hii1, by show 1 + 3 ≤ _; omega⟩), (fun h => by cases h)⟩)
            go_wp2_with fail
            go_meet
            exact ⟨_, _, _, _, _, _, HFF.out⟩

      · rw [decide_eq_false h46]
        clear HC2
        have HSE := Lib.hid (sees_any w3 X s i 91 d false great HC3.out.tx (by omega) (by omega) (by omega))
        go_wp2_with fail
        refine HSE.out.mono ?_
        rintro e w4 ⟨rfl, ht4, hb4⟩
        have HC4 := Lib.hid (HC3.out.below hb4)
        clear ht4 hb4 HSE HC3
        by_cases h91 : nx s.data.toList i = 91
        · skip
          rw [decide_eq_true h91]
          obtain ⟨c0, c1, c2, c3, c4, cf⟩ := tx_cells HC4.out.tx
          have f1 := cf 1; have f2 := cf 2; have f3 := cf 3; have f4 := cf 4
          clear cf

          have HC5 := Lib.hid (HC4.out.txk hXl (Kb.setCell w4 ⟨X, 1, none⟩ (.int .i64 i1)) (HC4.out.tx.at' i1))
          have HAF := Lib.hid (show atomF s.data.toList i = classF s.data.toList i1 by rw [HI1.out]; exact atomF_cls h91)
          have HCA := Lib.hid (class_r (w4.setCell ⟨X, 1, none⟩ (.int .i64 i1)) X s i1 d great HC5.out.tx hi1s (by omega))
          clear HC4
          go_wp2_with fail
          generalize w4.setCell ⟨X, 1, none⟩ (.int .i64 i1) = w5 at HC5 HCA ⊢
          clear c0 c1 c2 c3 c4 f1 f2 f3 f4
          refine HCA.out.mono ?_
          rintro e w6 ⟨hk6, hcase⟩
          have HNd := Lib.hid ((hk6.block (w.heap.size + 1) (lt_of_heap HC5.out.nd) (by omega)).trans HC5.out.nd)
          have HK := Lib.hid hk6
          clear HCA hk6
          rcases hcase with ⟨u, j, hcl, rfl, ht⟩ | ⟨hcl, u, j, rfl, hj, ht⟩
          · have haf : atomF s.data.toList i = some (u, j) := HAF.out.trans hcl
            have hao := classF_ok hcl hi1s
            have hij := hao.1
            have hjs := hao.2.1
            have HFF := Lib.hid (show FcL w X s d i great (w6.setRow (w.heap.size + 1) (RfC 0 (setB u) (.slice none 0 0)).toArray) d j false great (.set u) (RfC 0 (setB u) (.slice none 0 0)) from ⟨(HC5.out.txk hXl HK.out ht).put hXl rfl, hjs, (fun h => .inl h), (fun _ => ⟨FacS.atom haf hd, rfl, by omega, by show 1 + 3 ≤ _; omega⟩), (fun h => by cases h)⟩)
            clear ht hcl haf HAF hao
            go_wp2_with (refine st30n rfl rfl _ _ rfl (w.heap.size + 1) (RfC 0 (setB u) (.slice none 0 0)) (RfC 0 (bls fun _ => false) (.slice none 0 0)) rfl rfl HNd.out (rf_len _) (rf_len _) (rf_one _) ?_)
            go_meet
            exact ⟨_, _, _, _, _, _, HFF.out⟩
          · have hdd : FDead s.data.toList d i := FDead.atom (by rw [HLL.out]; exact hi) (HAF.out.trans hcl) h124 h40 h41
            have HFF := Lib.hid (show FcL w X s d i great (w6.setRow (w.heap.size + 1) (RfC 0 (setB u) (.slice none 0 0)).toArray) d j true great (.set u) (RfC 0 (setB u) (.slice none 0 0)) from ⟨(HC5.out.txk hXl HK.out ht).put hXl rfl, hj, (fun h => .inl h), (fun h => by cases h), (fun _ => ⟨hdd, by show 1 ≤ _; omega⟩)⟩)
            clear ht hcl HAF hdd
            go_wp2_with (refine st30n rfl rfl _ _ rfl (w.heap.size + 1) (RfC 0 (setB u) (.slice none 0 0)) (RfC 0 (bls fun _ => false) (.slice none 0 0)) rfl rfl HNd.out (rf_len _) (rf_len _) (rf_one _) ?_)
            go_meet
            exact ⟨_, _, _, _, _, _, HFF.out⟩

        · skip
          rw [decide_eq_false h91]
          have HCA := Lib.hid (letter_r w4 X OUT s i d great HC4.out.tx (by omega) (by omega) outS_size out0)
          have HAF := Lib.hid (atomF_let h46 h91)
          go_wp2_with fail
          refine HCA.out.mono ?_
          rintro e w6 ⟨hk6, hcase⟩
          have HK := Lib.hid hk6
          clear HCA hk6
          rcases hcase with ⟨c, j, hcl, rfl, ht⟩ | ⟨hcl, rfl, j, hj, ht⟩
          · have haf : atomF s.data.toList i = some (btw c 1, j) := by rw [HAF.out, hcl]; rfl
            obtain ⟨hc256, hij, hjs⟩ := letF_ok hcl (by omega) out0
            have HC6 := Lib.hid (HC4.out.txk hXl HK.out ht)
            obtain ⟨z1, z2⟩ := RfB.cell (f := fun _ => false) HC6.out.nd hc256
            have hci : (c : Int) < 256 := by omega
            have hc0 : (0 : Int) ≤ c := by omega
            have HFF := Lib.hid (show FcL w X s d i great (w6.setCell ⟨w.heap.size + 1, 1 + c, none⟩ (.bool true)) d j false great (.set (btw c 1)) (RfC 0 (bls fun m => if m = c then true else false) (.slice none 0 0)) from ⟨HC6.out.set hXl hc256 true (fun m hm => by rw [btw_has c 1 m (by omega) hm]; by_cases e : m = c <;> simp [e] <;> omega), hjs, (fun h => .inl h), (fun _ => ⟨FacS.atom haf hd, rfl, by omega, by show 1 + 3 ≤ _; omega⟩), (fun h => by cases h)⟩)
            clear ht hcl haf HAF HC4
            go_wp2_with fail
            go_meet
            exact ⟨_, _, _, _, _, _, HFF.out⟩
          · have hdd : FDead s.data.toList d i := FDead.atom (by rw [HLL.out]; exact hi) (by rw [HAF.out, hcl]; rfl) h124 h40 h41
            have HC6 := Lib.hid (HC4.out.txk hXl HK.out ht)
            obtain ⟨z1, z2⟩ := RfB.cell (f := fun _ => false) (k := 0) HC6.out.nd (by omega)
            have HFF := Lib.hid (show FcL w X s d i great (w6.setCell ⟨w.heap.size + 1, 1 + 0, none⟩ (.bool true)) d j true great (.set (btw 0 1)) (RfC 0 (bls fun m => if m = 0 then true else false) (.slice none 0 0)) from ⟨HC6.out.set hXl (by omega) true (fun m hm => by rw [btw_has 0 1 m (by omega) hm]; by_cases e : m = 0 <;> simp [e] <;> omega), hj, (fun h => .inl h), (fun h => by cases h), (fun _ => ⟨hdd, by show 1 ≤ _; omega⟩)⟩)
            clear ht hcl HAF HC4 hdd
            go_wp2_with fail
            go_meet
            exact ⟨_, _, _, _, _, _, HFF.out⟩
  case rest =>
    obtain ⟨d0, j0, bad0, gr0, r0, cs0, HF0⟩ := hcut
    clear HC1
    have HST := Lib.hid (show ∃ d' j bad gr r cs, FcL w X s d i great wc d' j bad gr r cs ∧ s.size + 1 ≤ (s.size + 1) + j from ⟨d0, j0, bad0, gr0, r0, cs0, HF0.out, by omega⟩)
    clear HF0
    go_wp2_with fail
    go_loopg [] (s.size + 1) (fun k wr => ∃ d' j bad gr r cs, FcL w X s d i great wr d' j bad gr r cs ∧ s.size + 1 ≤ k + j)
    case atStart => exact HST.out
    case round =>
      clear HST
      obtain ⟨d', j, bad, gr, r, cs, hF, hk⟩ := hrel
      have HF := Lib.hid hF
      clear hF
      have hjs := HF.out.js
      obtain ⟨c0, c1, c2, c3, c4, cf⟩ := tx_cells HF.out.st.tx
      have f1 := cf 1; have f2 := cf 2; have f3 := cf 3; have f4 := cf 4
      clear cf
      cases bad
      · rcases Nat.lt_or_ge j s.size with hlt | hge
        · have hji : (j : Int) < s.size := by omega
          have hj0 : (0 : Int) ≤ j := by omega
          have hgd : decide ((j : Int) < s.size) = true := decide_eq_true hji
          have hxl := s[j].toNat_lt
          have HNX := Lib.hid (nx_get hlt)
          cases hin : inS REP s[j].toNat with
          | false =>
            have HIN := Lib.hid (fun w' => in_any REP s[j].toNat w' (by omega) repS_size)
            rw [hin] at HIN
            have HIF := Lib.hid hin
            clear hin
            go_wp2_with fail
            go_quiet (first | (go_at_call 145; refine Calls.quiet_of_same (HIN.out _)))
            have HRR := Lib.hid (show FcL w X s d i great (wr.drewN nq) d' j false gr r cs from ⟨HF.out.st.below (below_drewN _ wr nq), HF.out.js, HF.out.gr, HF.out.ok, HF.out.bad⟩)
            generalize wr.drewN nq = w9 at HRR ⊢
            clear c0 c1 c2 c3 c4 f1 f2 f3 f4
            go_wp2_with (first | (refine ld30 rfl _ rfl (w.heap.size + 1) 0 cs rfl (row_range HRR.out.st.nd) HRR.out.st.rf.len ?_) | (refine st30n rfl rfl _ _ rfl w.heap.size cs (RfC 0 (bls fun _ => false) (.slice none 0 0)) rfl rfl HRR.out.st.res (rf_len _) HRR.out.st.rf.len HRR.out.st.rf.rf.one ?_))
            refine bodyPost_ret (results_nd rfl _ _ w.heap.size cs (0, 0) rfl (HRR.out.st.fin hXl).2.2.1 HRR.out.st.rf.len) rfl ?_
            exact HRR.out.to hXl (fun _ => by rw [HNX.out]; exact HIF.out)

          | true =>
            have HIN := Lib.hid (fun w' => in_any REP s[j].toNat w' (by omega) repS_size)
            rw [hin] at HIN
            have HIT := Lib.hid (show inS REP (nx s.data.toList j) = true by rw [HNX.out]; exact hin)
            have H3 := Lib.hid (rep_three (by omega) hin)
            clear hin
            go_wp2_with fail
            go_quiet (first | (go_at_call 145; refine Calls.quiet_of_same (HIN.out _)))
            have HF3 := Lib.hid (HF.out.st.below (below_drewN _ wr nq))
            generalize wr.drewN nq = w3 at HF3 ⊢
            clear c0 c1 c2 c3 c4 f1 f2 f3 f4
            obtain ⟨c0, c1, c2, c3, c4, cf⟩ := tx_cells HF3.out.tx
            have f1 := cf 1; have f2 := cf 2; have f3 := cf 3; have f4 := cf 4
            clear cf
            go_wp2_with fail
            go_quiet (fail)
            have HF4 := Lib.hid (HF3.out.below (below_drewN _ w3 nq))
            generalize w3.drewN nq = w4 at HF4 ⊢
            clear HF3 HIN
            clear c0 c1 c2 c3 c4 f1 f2 f3 f4
            go_upto_block 5 with fail
            go_cut [] (fun wx => ∃ cs', Hid (FcS w X s wx d' j false gr (repF r (nx s.data.toList j)) cs'))
            case first =>
              have hN4 : w.heap.size + 2 ≤ w4.heap.size := lt_of_heap HF4.out.nd
              have HA := Lib.hid (show ∀ o : Obj, FcS w X s (w4.alloc o) d' j false gr r cs from fun o => HF4.out.below ((Below.refl _ w4).alloc (Nat.le_refl _) o))
              rcases H3.out with h42 | h43 | h63
              · have hci : ((s[j].toNat : Nat) : Int) = 42 := by omega
                have hcb : (((s[j].toNat : Nat) : Int) == 42) = true := by simp [hci]
                have HRP := Lib.hid (show repF r (nx s.data.toList j) = .star r by rw [HNX.out, h42]; rfl)
                have HFF := Lib.hid ((HA.out (.cells cs.toArray 36)).put hXl (r' := .star r) (cs' := RfC 4 noB (.slice (some ⟨w4.heap.size, 0, none⟩) 1 1)) ⟨w4.heap.size, (0, 0), cs, rfl, heap_alloc_new w4 _, hN4, (HA.out _).rf⟩)
                have HND2 := Lib.hid (HA.out (.cells cs.toArray 36)).nd
                clear h42 HA
                go_wp2_with (first | (refine ld30 rfl _ rfl (w.heap.size + 1) 0 cs rfl (row_range HF4.out.nd) HF4.out.rf.len ?_) | (refine bs1 rfl _ rfl cs rfl HF4.out.rf.len ?_; generalize w4.alloc (.cells cs.toArray 36) = w5 at HFF HND2 ⊢) | (refine bd2 rfl _ _ rfl _ _ _ _ rfl rfl ?_) | (refine st30n rfl rfl _ _ rfl (w.heap.size + 1) (RfC 4 noB (.slice (some ⟨w4.heap.size, 0, none⟩) 1 1)) cs rfl rfl HND2.out HF4.out.rf.len (noB_l _ _) (noB_one _ _ _ _) ?_))
                go_meet
                exact ⟨_, by rw [HRP.out]; exact HFF.out⟩
              · have hci : ((s[j].toNat : Nat) : Int) = 43 := by omega
                have hcb : (((s[j].toNat : Nat) : Int) == 42) = false := by simp [hci]
                have hcb2 : (((s[j].toNat : Nat) : Int) == 43) = true := by simp [hci]
                have HRP := Lib.hid (show repF r (nx s.data.toList j) = .cat r (.star r) by rw [HNX.out, h43]; rfl)
                have hal1 : (w4.alloc (.cells cs.toArray 36)).heap[w4.heap.size]? = some (.cells cs.toArray 36 (0, 0)) := heap_alloc_new w4 _
                have HA2 := Lib.hid (show ∀ o : Obj, FcS w X s ((w4.alloc (.cells cs.toArray 36)).alloc o) d' j false gr r cs from fun o => (HA.out _).below ((Below.refl _ _).alloc (Nat.le_refl _) o))
                have hsz2 : (w4.alloc (.cells cs.toArray 36)).heap.size = w4.heap.size + 1 := by simp
                have HAL2 := Lib.hid (show ((w4.alloc (.cells cs.toArray 36)).alloc (.cells (cs ++ RfC 4 noB (.slice (some ⟨w4.heap.size, 0, none⟩) 1 1)).toArray 36)).heap[w4.heap.size + 1]? = some (.cells (cs ++ RfC 4 noB (.slice (some ⟨w4.heap.size, 0, none⟩) 1 1)).toArray 36 (0, 0)) by
                  have := heap_alloc_new (w4.alloc (.cells cs.toArray 36)) (.cells (cs ++ RfC 4 noB (.slice (some ⟨w4.heap.size, 0, none⟩) 1 1)).toArray 36)
                  rwa [hsz2] at this)
                have HST4 := Lib.hid (show RfQ (fun k => w.heap.size + 2 ≤ k) ((w4.alloc (.cells cs.toArray 36)).alloc (.cells (cs ++ RfC 4 noB (.slice (some ⟨w4.heap.size, 0, none⟩) 1 1)).toArray 36)) (.star r) (RfC 4 noB (.slice (some ⟨w4.heap.size, 0, none⟩) 1 1)) from ⟨w4.heap.size, (0, 0), cs, rfl, (Below.heap_alloc _ _ _ (by rw [hsz2]; omega)).trans hal1, hN4, (HA2.out _).rf⟩)
                have HFF := Lib.hid ((HA2.out (.cells (cs ++ RfC 4 noB (.slice (some ⟨w4.heap.size, 0, none⟩) 1 1)).toArray 36)).put hXl (r' := .cat r (.star r)) (cs' := RfC 2 noB (.slice (some ⟨w4.heap.size + 1, 0, none⟩) 2 2)) ⟨w4.heap.size + 1, (0, 0), cs, RfC 4 noB (.slice (some ⟨w4.heap.size, 0, none⟩) 1 1), rfl, HAL2.out, by omega, (HA2.out _).rf, HST4.out⟩)
                have HSZ2 := Lib.hid hsz2
                have HND2 := Lib.hid (HA2.out (.cells (cs ++ RfC 4 noB (.slice (some ⟨w4.heap.size, 0, none⟩) 1 1)).toArray 36)).nd
                clear h43 hal1 hsz2 HA HA2 HAL2 HST4
                go_wp2_with (first | (refine ld30 rfl _ rfl (w.heap.size + 1) 0 cs rfl (row_range HF4.out.nd) HF4.out.rf.len ?_; simp only [Act.put, List.setIfInBounds_toArray, List.set_cons_zero, List.set_cons_succ]) | (refine bs1 rfl _ rfl cs rfl HF4.out.rf.len ?_; generalize w4.alloc (.cells cs.toArray 36) = w5 at HSZ2 HFF HND2 ⊢; simp only [Act.put, List.setIfInBounds_toArray, List.set_cons_zero, List.set_cons_succ]) | (refine bd2 rfl _ _ rfl _ _ _ _ rfl rfl ?_; simp only [Act.put, List.setIfInBounds_toArray, List.set_cons_zero, List.set_cons_succ]) | (refine bs2n rfl _ _ rfl (w4.heap.size + 1) HSZ2.out cs (RfC 4 noB (.slice (some ⟨w4.heap.size, 0, none⟩) 1 1)) rfl rfl HF4.out.rf.len (noB_l _ _) ?_; generalize w5.alloc (.cells (cs ++ RfC 4 noB (.slice (some ⟨w4.heap.size, 0, none⟩) 1 1)).toArray 36) = w6 at HFF HND2 ⊢; simp only [Act.put, List.setIfInBounds_toArray, List.set_cons_zero, List.set_cons_succ]) | (refine bd2 rfl _ _ rfl _ _ _ _ rfl rfl ?_; simp only [Act.put, List.getElem_toArray, List.getElem_cons_zero, List.getElem_cons_succ, List.setIfInBounds_toArray, List.set_cons_zero, List.set_cons_succ]) | (refine st30n rfl rfl _ _ rfl (w.heap.size + 1) (RfC 2 noB (.slice (some ⟨w4.heap.size + 1, 0, none⟩) 2 2)) cs rfl rfl HND2.out HF4.out.rf.len (noB_l _ _) (noB_one _ _ _ _) ?_))
                go_meet
                exact ⟨_, by rw [HRP.out]; exact HFF.out⟩
              · have hci : ((s[j].toNat : Nat) : Int) = 63 := by omega
                have hcb : (((s[j].toNat : Nat) : Int) == 42) = false := by simp [hci]
                have hcb2 : (((s[j].toNat : Nat) : Int) == 43) = false := by simp [hci]
                have HRP := Lib.hid (show repF r (nx s.data.toList j) = .or r .empty by rw [HNX.out, h63]; rfl)
                have HFF := Lib.hid ((HA.out (.cells (cs ++ RfC 1 noB (.slice none 0 0)).toArray 36)).put hXl (r' := .or r .empty) (cs' := RfC 3 noB (.slice (some ⟨w4.heap.size, 0, none⟩) 2 2)) ⟨w4.heap.size, (0, 0), cs, RfC 1 noB (.slice none 0 0), rfl, heap_alloc_new w4 _, hN4, (HA.out _).rf, rfl⟩)
                have HND2 := Lib.hid (HA.out (.cells (cs ++ RfC 1 noB (.slice none 0 0)).toArray 36)).nd
                clear h63 HA
                go_wp2_with (first | (refine ld30 rfl _ rfl (w.heap.size + 1) 0 cs rfl (row_range HF4.out.nd) HF4.out.rf.len ?_) | (refine bd1 rfl _ rfl rfl ?_) | (refine bs2 rfl _ _ rfl cs (RfC 1 noB (.slice none 0 0)) rfl rfl HF4.out.rf.len (noB_l _ _) ?_; generalize w4.alloc (.cells (cs ++ RfC 1 noB (.slice none 0 0)).toArray 36) = w5 at HFF HND2 ⊢) | (refine bd2 rfl _ _ rfl _ _ _ _ rfl rfl ?_) | (refine st30n rfl rfl _ _ rfl (w.heap.size + 1) (RfC 3 noB (.slice (some ⟨w4.heap.size, 0, none⟩) 2 2)) cs rfl rfl HND2.out HF4.out.rf.len (noB_l _ _) (noB_one _ _ _ _) ?_))
                go_meet
                exact ⟨_, by rw [HRP.out]; exact HFF.out⟩
            case rest =>
              obtain ⟨cs', HF5⟩ := hcut
              obtain ⟨o1, o2, o3, o4⟩ := HF.out.ok rfl
              obtain ⟨j1, hj1⟩ : ∃ j1, j1 = j + 1 := ⟨_, rfl⟩
              have p3 : IntKind.i64.wrap ((j : Int) + 1) = (j1 : Int) := by rw [hj1, IntWalk.i64_in _ (by omega)]; omega
              have hrl := repF_le r (nx s.data.toList j)
              have HMO := Lib.hid (o1.more HIT.out hd)
              have HGT := Lib.hid (o1.great HIT.out)
              have HGR := Lib.hid HF.out.gr
              obtain ⟨r2, hr2⟩ : ∃ r2, r2 = repF r (nx s.data.toList j) := ⟨_, rfl⟩
              rw [← hr2] at hrl HMO HGT HF5
              rw [← hj1] at HMO
              have hj1b : j < j1 := by omega
              have hj1c : j1 ≤ s.size := by omega
              have HO2 := Lib.hid o2
              clear o1 o2 hr2 hj1 HF HF4 H3
              obtain ⟨c0, c1, c2, c3, c4, cf⟩ := tx_cells HF5.out.tx
              have f1 := cf 1; have f2 := cf 2; have f3 := cf 3; have f4 := cf 4
              clear cf
              have HF6 := Lib.hid (HF5.out.txk hXl (Kb.setCell wc ⟨X, 1, none⟩ (.int .i64 j1)) (HF5.out.tx.at' j1))
              have HSI := Lib.hid (rsize_any r2.size r2 (Nat.le_refl _) (by omega) (wc.setCell ⟨X, 1, none⟩ (.int .i64 j1)) cs' HF6.out.rf.rf)
              obtain ⟨z, hz⟩ : ∃ z, z = r2.size := ⟨_, rfl⟩
              rw [← hz] at HSI
              have HZ := Lib.hid hz
              go_wp2_with (refine ld30 rfl _ rfl (w.heap.size + 1) 0 cs' rfl (row_range HF6.out.nd) HF6.out.rf.len ?_)
              refine HSI.out.mono ?_
              rintro e w7 ⟨rfl, hb7⟩
              have HF7 := Lib.hid (HF6.out.below hb7)
              clear hb7 HF5 HF6 HSI
              clear c0 c1 c2 c3 c4 f1 f2 f3 f4
              obtain ⟨c0, c1, c2, c3, c4, cf⟩ := tx_cells HF7.out.tx
              have f1 := cf 1; have f2 := cf 2; have f3 := cf 3; have f4 := cf 4
              clear cf
              by_cases h400 : 400 < z
              · have hzi : (400 : Int) < z := by omega
                have HDD := Lib.hid (HGT.out (by rw [← HZ.out]; exact h400))
                have hzz := HZ.out
                have hbd : r2.size ≤ 3000 * (s.size + 1 - i) := by omega
                have HFF := Lib.hid (show FcL w X s d i great ((w7.setCell ⟨X, 4, none⟩ (.bool true)).setCell ⟨X, 3, none⟩ (.bool true)) d' j1 true true r2 cs' from ⟨(HF7.out.txk hXl (Kb.setCell w7 ⟨X, 4, none⟩ (.bool true)) (HF7.out.tx.great' true)).txk hXl (Kb.setCell _ ⟨X, 3, none⟩ (.bool true)) ((HF7.out.tx.great' true).bad' true), hj1c, (fun _ => .inr HDD.out), (fun h => by cases h), (fun _ => ⟨HDD.out, hbd⟩)⟩)
                clear hz hzz
                go_wp2_with fail
                go_roundg (gk - 1)
                case measure => omega
                case rel => exact ⟨_, _, _, _, _, _, HFF.out, by omega⟩
              · have hzi : ¬ (400 : Int) < z := by omega
                have hzb : decide ((400 : Int) < z) = false := decide_eq_false hzi
                have hzz := HZ.out
                have HFF := Lib.hid (show FcL w X s d i great w7 d' j1 false gr r2 cs' from ⟨HF7.out, hj1c, HGR.out, (fun _ => ⟨HMO.out, HO2.out, by omega, by omega⟩), (fun h => by cases h)⟩)
                clear hz hzz
                go_wp2_with fail
                go_roundg (gk - 1)
                case measure => omega
                case rel => exact ⟨_, _, _, _, _, _, HFF.out, by omega⟩
        · obtain rfl : j = s.size := by omega
          have hgd : decide ((s.size : Int) < s.size) = false := by simp
          go_wp2_with fail
          go_quiet (fail)
          have HRR := Lib.hid (show FcL w X s d i great (wr.drewN nq) d' s.size false gr r cs from ⟨HF.out.st.below (below_drewN _ wr nq), HF.out.js, HF.out.gr, HF.out.ok, HF.out.bad⟩)
          generalize wr.drewN nq = w9 at HRR ⊢
          clear c0 c1 c2 c3 c4 f1 f2 f3 f4
          go_wp2_with (first | (refine ld30 rfl _ rfl (w.heap.size + 1) 0 cs rfl (row_range HRR.out.st.nd) HRR.out.st.rf.len ?_) | (refine st30n rfl rfl _ _ rfl w.heap.size cs (RfC 0 (bls fun _ => false) (.slice none 0 0)) rfl rfl HRR.out.st.res (rf_len _) HRR.out.st.rf.len HRR.out.st.rf.rf.one ?_))
          refine bodyPost_ret (results_nd rfl _ _ w.heap.size cs (0, 0) rfl (HRR.out.st.fin hXl).2.2.1 HRR.out.st.rf.len) rfl ?_
          exact HRR.out.to hXl (fun _ => by rw [nx_end]; exact rep0)

      · skip
        go_wp2_with fail
        go_quiet (fail)
        have HRR := Lib.hid (show FcL w X s d i great (wr.drewN nq) d' j true gr r cs from ⟨HF.out.st.below (below_drewN _ wr nq), HF.out.js, HF.out.gr, HF.out.ok, HF.out.bad⟩)
        generalize wr.drewN nq = w9 at HRR ⊢
        clear c0 c1 c2 c3 c4 f1 f2 f3 f4
        go_wp2_with (first | (refine ld30 rfl _ rfl (w.heap.size + 1) 0 cs rfl (row_range HRR.out.st.nd) HRR.out.st.rf.len ?_) | (refine st30n rfl rfl _ _ rfl w.heap.size cs (RfC 0 (bls fun _ => false) (.slice none 0 0)) rfl rfl HRR.out.st.res (rf_len _) HRR.out.st.rf.len HRR.out.st.rf.rf.one ?_))
        refine bodyPost_ret (results_nd rfl _ _ w.heap.size cs (0, 0) rfl (HRR.out.st.fin hXl).2.2.1 HRR.out.st.rf.len) rfl ?_
        exact HRR.out.to hXl (fun h => by cases h)
end Go.Proofs.YtejdfpieblkapaaGreatDoor
