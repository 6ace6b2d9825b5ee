/- Carried from another seat. -/
import Derived.Test.YtejdfpieblkapaaGreatDoorM64
import Derived.Test.YtejdfpieblkapaaGreatDoorM66
namespace Go.Proofs.YtejdfpieblkapaaGreatDoor
open Go.RowKit Go.Shelf

/-- Alternatives, from any place on. -/
theorem or_all (s : ByteArray) (hs : s.size ≤ 300) : ∀ n i, s.size < n + i → OrOk s i
  | 0, i, h => fun _ _ _ _ _ hi _ => absurd hi (by omega)
  | n + 1, i, h => or_r s i hs (fun j hij hj => factor_r s j hs (or_all s hs n (j + 1) (by omega)))
/-- What the document's Parse answers. -/
def PaR (s : ByteArray) (w : World) (e : Ending) (w' : World) : Prop := Below w.heap.size w w' ∧ ∃ (cs : List Value) (bad : Int) (gr : Bool), e = .returned (.tuple #[.agg cs.toArray, .int .i64 bad, .bool gr]) ∧ cs.length = 258 ∧ (∀ v ∈ cs, v.oneCell' = true) ∧ ((∃ r, parseF s.data.toList = some r ∧ r.size ≤ 400 ∧ bad = -1 ∧ gr = false ∧ RfQ (fun k => w.heap.size ≤ k) w' r cs) ∨ (parseF s.data.toList = none ∧ (0 ≤ bad ∨ gr = true)))
theorem results_nd3 {fn : Func} {p u v : Tmp} (h : fn.results = #[.cell p 36, .tmp u, .tmp v]) (tmps : Array Value) (w : World) (g : Nat) (cs : List Value) (fr : Nat × Nat) (hp : tmps.getD p undef = .pointer (some ⟨g, 0, none⟩)) (hg : w.heap[g]? = some (.cells cs.toArray 36 fr)) (hl : cs.length = 258) :
    (results fn tmps).run Tryz.prog w = .ok (.tuple #[.agg cs.toArray, tmps.getD u undef, tmps.getD v undef]) w := by
  have hp' : tmps[p]?.getD undef = .pointer (some ⟨g, 0, none⟩) := by simpa using hp
  simp [results, h, hp', asAddr, run_loadVar_row w g 36 36 cs.toArray fr _ hg Tryz.underlying36 rfl (by rw [Tryz.info36]; simp [hl])]
theorem yields_bd0 {ops : Array Oper} {S : World → Prop} {o : Oper} {a : Act} (hw : Region.wanted o (yielded ops a.tmps) = true) (ho : o.op = .build 36 #[]) : YieldsIf Tryz.prog ops S o (.agg (RfC 0 noB (.slice none 0 0)).toArray) a :=
  .inl ⟨hw, fun w _ => by
    unfold execOp
    have := run_build (P := Tryz.prog) w 36 ((#[] : Array (Nat × Operand)).map fun (i, x) => (i, a.eval x)) (RfC 0 noB (.slice none 0 0)).toArray (by rw [parts0]; exact built30z)
    simp only [ho, Sem.run_bind, this, Result.andThen_ok]
    rfl⟩

set_option maxRecDepth 100000 in
set_option maxHeartbeats 1000000 in
theorem rparse_r (s : ByteArray) (w : World) (hs : s.size ≤ 300) : Calls Tryz.prog 46 #[.string s] w (PaR s w) := by
  have hlenL : s.data.toList.length = s.size := by rw [← Lib.size_eq]
  have hsz1 : (w.alloc (.cells Tryz.zeroCells36 36)).heap.size = w.heap.size + 1 := by simp
  have hb2 : Below w.heap.size w ((w.alloc (.cells Tryz.zeroCells36 36)).alloc (.cells #[.string s, .int .i64 0, .int .i64 0, .bool false, .bool false] 131)) := ((Below.refl _ w).alloc (Nat.le_refl _) _).alloc (by simp) _
  have ht2 : TxB ((w.alloc (.cells Tryz.zeroCells36 36)).alloc (.cells #[.string s, .int .i64 0, .int .i64 0, .bool false, .bool false] 131)) (w.heap.size + 1) s 0 ((0 : Nat) : Int) false false := by
    have := heap_alloc_new (w.alloc (.cells Tryz.zeroCells36 36)) (.cells #[.string s, .int .i64 0, .int .i64 0, .bool false, .bool false] 131)
    rw [hsz1] at this
    exact this
  have hR2 : ((w.alloc (.cells Tryz.zeroCells36 36)).alloc (.cells #[.string s, .int .i64 0, .int .i64 0, .bool false, .bool false] 131)).heap[w.heap.size]? = some (.cells (RfC 0 noB (.slice none 0 0)).toArray 36 (0, 0)) := (Below.heap_alloc _ _ _ (by simp)).trans (alloc_res w)
  have HCA := Lib.hid (or_all s hs (s.size + 1) 0 (by omega) _ (w.heap.size + 1) false 0 ht2 (Nat.zero_le _) (by omega))
  have H2 := Lib.hid (And.intro hR2 hb2); have HLL := Lib.hid hlenL
  clear hsz1 hb2 ht2 hR2 hlenL
  go_enter Tryz.func46, Tryz.ntmps46
  go_wp2_with fail
  generalize (w.alloc (.cells Tryz.zeroCells36 36)).alloc (.cells #[.string s, .int .i64 0, .int .i64 0, .bool false, .bool false] 131) = w2 at HCA H2 ⊢
  refine HCA.out.mono ?_
  rintro e w3 ⟨r, cs, gr, rfl, hq, hk, hgr, hcase⟩
  clear HCA
  have hb3 : Below w.heap.size w w3 := H2.out.2.trans (hk.below H2.out.2.size (fun i hi => by omega))
  have hR3 := (hk.block w.heap.size (lt_of_heap H2.out.1) (by omega)).trans H2.out.1
  have HAL := Lib.hid (alloc_res w3)
  have hal : Below w3.heap.size w3 (w3.alloc (.cells Tryz.zeroCells36 36)) := (Below.refl _ w3).alloc (Nat.le_refl _) _
  have k4 : Kb (fun i => i = w3.heap.size) w3 ((w3.alloc (.cells Tryz.zeroCells36 36)).setRow w3.heap.size cs.toArray) := (Kb.of_below _ hal).trans (setRow_kb _ _ _) (fun _ _ h => h)
  have hb4 : Below w.heap.size w ((w3.alloc (.cells Tryz.zeroCells36 36)).setRow w3.heap.size cs.toArray) := hb3.trans (k4.below hb3.size (fun i hi => by have := hb3.size; omega))
  have hR4 := (k4.block w.heap.size (lt_of_heap hR3) (by have := lt_of_heap hR3; omega)).trans hR3
  have hN4 : ((w3.alloc (.cells Tryz.zeroCells36 36)).setRow w3.heap.size cs.toArray).heap[w3.heap.size]? = some (.cells cs.toArray 36 (0, 0)) := setRow_heap _ _ _ _ 36 (0, 0) (alloc_res w3)
  have hw2 : w.heap.size + 1 ≤ w2.heap.size := lt_of_heap H2.out.1
  have hV4 : RfQ (fun k => w.heap.size + 1 ≤ k) ((w3.alloc (.cells Tryz.zeroCells36 36)).setRow w3.heap.size cs.toArray) r cs := (hq.keep k4 (fun i hi _ he => by omega)).mono (fun i _ h => by omega)
  have hT4 : ∀ {j : Nat} {d : Int} {bad : Bool}, TxB w3 (w.heap.size + 1) s j d bad gr → TxB ((w3.alloc (.cells Tryz.zeroCells36 36)).setRow w3.heap.size cs.toArray) (w.heap.size + 1) s j d bad gr := fun h => (k4.block _ (lt_of_heap h) (by have := lt_of_heap h; omega)).trans h
  have HQ := Lib.hid hq
  have HLE := Lib.hid hq.len
  obtain ⟨j, D, bad, hT, hjs, hok, hbad, hrs⟩ : ∃ (j : Nat) (D : Int) (bad : Bool), TxB ((w3.alloc (.cells Tryz.zeroCells36 36)).setRow w3.heap.size cs.toArray) (w.heap.size + 1) s j D bad gr ∧ j ≤ s.size ∧ (bad = false → OrP s.data.toList 0 [] 0 r j ∧ (j = s.size ∨ nx s.data.toList j = 41)) ∧ (bad = true → parseF s.data.toList = none) ∧ r.size ≤ 1000000 := by
    rcases hcase with ⟨j, h1, _, h3, h4, h5, h6⟩ | ⟨j, D, h1, h2, h3, h4⟩
    · exact ⟨j, _, false, hT4 h6, h3, (fun _ => ⟨h1, h4⟩), (fun h => by cases h), by omega⟩
    · exact ⟨j, D, true, hT4 h3, h1, (fun h => by cases h), (fun _ => h4.parse), by omega⟩
  have HOK := Lib.hid hok; have HBD := Lib.hid hbad
  have HGR := Lib.hid (show gr = true → parseF s.data.toList = none from fun h => by
    rcases hgr h with h | h | h
    · cases h
    · exact h.parse
    · cases bad with
      | true => exact hbad rfl
      | false =>
        obtain ⟨h1, h2⟩ := hok rfl
        rcases h2 with h2 | h2
        · subst h2; rw [← HLL.out] at h1; exact h1.great h
        · exact h1.close h2)
  have H4 := Lib.hid (And.intro hT (And.intro hR4 (And.intro hN4 (And.intro hV4 hb4))))
  clear hq hk hgr hcase hb3 hR3 hal k4 hb4 hR4 hN4 hV4 hT4 hT hok hbad H2
  go_upto_region 3 with (refine st30o rfl rfl _ _ rfl w3.heap.size cs (RfC 0 noB (.slice none 0 0)) rfl rfl HAL.out (noB_l _ _) HLE.out HQ.out.rf.one ?_)
  generalize (w3.alloc (.cells Tryz.zeroCells36 36)).setRow w3.heap.size cs.toArray = w4 at H4 ⊢
  generalize w3.heap.size = B at H4 ⊢
  clear HAL HQ
  obtain ⟨c0, c1, c2, c3, c4, cf⟩ := tx_cells H4.out.1
  clear cf
  cases gr
  · cases bad
    · rcases Nat.lt_or_ge j s.size with hlt | hge
      · have hji : (j : Int) < s.size := by omega
        have HNO := Lib.hid (show parseF s.data.toList = none from (HOK.out rfl).1.close ((HOK.out rfl).2.resolve_left (by omega)))
        go_upto_region 6 with fail
        refine wp_region_held_drew (S := fun w' => TxB w' (w.heap.size + 1) s j D false false ∧ w'.heap[w.heap.size]? = some (.cells (RfC 0 noB (.slice none 0 0)).toArray 36 (0, 0)) ∧ Below w.heap.size w w') (by kernel_rfl) ⟨H4.out.1.below ((Below.refl _ w4).drew), (((Below.refl _ w4).drew).block _ (lt_of_heap H4.out.2.1)).trans H4.out.2.1, H4.out.2.2.2.2.drew⟩ ?_
        intro hS
        change wpAnyH _ _ _ _ _ 8 (Array.replicate 8 false) _ (World.drew _)
        generalize w4.drew = wz at hS ⊢
        refine wpAnyH_take (i := 0) rfl (by kernel_rfl) (by kernel_rfl) (by kernel_rfl) (fun _ _ _ h => h) (yields_bd0 (by rfl) rfl) hS ?_
        try simp only [Act.put, List.getElem_toArray, List.getElem_cons_zero, List.setIfInBounds_toArray, List.set_cons_zero, List.set_cons_succ]

        refine wpAnyH_take (i := 1) (v := ?_) rfl (by kernel_rfl) (by kernel_rfl) (by kernel_rfl) (fun _ _ _ h => h) (Or.inl ⟨by rfl, ?_⟩) hS ?_
        rotate_left 1
        · intro wq hq
          obtain ⟨q0, q1, q2, q3, q4, _⟩ := tx_cells hq.1
          go_simp; (try with_reducible rfl)
        try simp only [Act.put, List.getElem_toArray, List.getElem_cons_zero, List.getElem_cons_succ, List.setIfInBounds_toArray, List.set_cons_zero, List.set_cons_succ]

        refine wpAnyH_take (i := 2) (v := ?_) rfl (by kernel_rfl) (by kernel_rfl) (by kernel_rfl) (fun _ _ _ h => h) (Or.inl ⟨by rfl, ?_⟩) hS ?_
        rotate_left 1
        · intro wq hq
          obtain ⟨q0, q1, q2, q3, q4, _⟩ := tx_cells hq.1
          go_simp; (try with_reducible rfl)
        try simp only [Act.put, List.getElem_toArray, List.getElem_cons_zero, List.getElem_cons_succ, List.setIfInBounds_toArray, List.set_cons_zero, List.set_cons_succ]

        refine wpAnyH_take (i := 3) (v := ?_) rfl (by kernel_rfl) (by kernel_rfl) (by kernel_rfl) (fun _ _ _ h => h) (Or.inl ⟨by rfl, ?_⟩) hS ?_
        rotate_left 1
        · intro wq hq
          obtain ⟨q0, q1, q2, q3, q4, _⟩ := tx_cells hq.1
          go_simp; (try with_reducible rfl)
        try simp only [Act.put, List.getElem_toArray, List.getElem_cons_zero, List.getElem_cons_succ, List.setIfInBounds_toArray, List.set_cons_zero, List.set_cons_succ]

        refine wpAnyH_take (i := 4) (v := ?_) rfl (by kernel_rfl) (by kernel_rfl) (by kernel_rfl) (fun _ _ _ h => h) (Or.inl ⟨by rfl, ?_⟩) hS ?_
        rotate_left 1
        · intro wq hq
          obtain ⟨q0, q1, q2, q3, q4, _⟩ := tx_cells hq.1
          go_simp; (try with_reducible rfl)
        try simp only [Act.put, List.getElem_toArray, List.getElem_cons_zero, List.getElem_cons_succ, List.setIfInBounds_toArray, List.set_cons_zero, List.set_cons_succ]

        refine wpAnyH_ready (rs := [5]) (by kernel_rfl) (by simp) ?_
        refine AllReadyH.cons rfl (fun K' hK => ?_) AllReadyH.nil
        rw [if_pos (by rfl)]
        refine wp_st30 (.tmp 2) (.tmp 30) rfl w.heap.size (RfC 0 noB (.slice none 0 0)) _ rfl rfl hS.2.1 (noB_l _ _) (noB_l _ _) (noB_one _ _ _ _) ?_
        have kz := setRow_kb wz w.heap.size (RfC 0 noB (.slice none 0 0)).toArray
        have hz1 : (wz.setRow w.heap.size (RfC 0 noB (.slice none 0 0)).toArray).heap[w.heap.size]? = some (.cells (RfC 0 noB (.slice none 0 0)).toArray 36 (0, 0)) := setRow_heap _ _ _ _ 36 (0, 0) hS.2.1
        have hz2 : Below w.heap.size w (wz.setRow w.heap.size (RfC 0 noB (.slice none 0 0)).toArray) := hS.2.2.trans (kz.below hS.2.2.size (fun i hi => by omega))
        refine hK.out _ _ ⟨(kz.block _ (lt_of_heap hS.1) (by omega)).trans hS.1, hz1, hz2⟩ (fun hS => ?_)
        clear hK K' kz hz1 hz2
        generalize wz.setRow w.heap.size (RfC 0 noB (.slice none 0 0)).toArray = wy at hS ⊢
        try simp only [Act.put, List.getElem_toArray, List.getElem_cons_zero, List.getElem_cons_succ]

        refine wpAnyH_take (i := 6) (v := ?_) rfl (by kernel_rfl) (by kernel_rfl) (by kernel_rfl) (fun _ _ _ h => h) (Or.inl ⟨by rfl, ?_⟩) hS ?_
        rotate_left 1
        · intro wq hq
          obtain ⟨q0, q1, q2, q3, q4, _⟩ := tx_cells hq.1
          go_simp; (try with_reducible rfl)
        try simp only [Act.put, List.getElem_toArray, List.getElem_cons_zero, List.getElem_cons_succ, List.setIfInBounds_toArray, List.set_cons_zero, List.set_cons_succ]

        refine wpAnyH_take (i := 7) (v := ?_) rfl (by kernel_rfl) (by kernel_rfl) (by kernel_rfl) (fun _ _ _ h => h) (Or.inl ⟨by rfl, ?_⟩) hS ?_
        rotate_left 1
        · intro wq hq
          obtain ⟨q0, q1, q2, q3, q4, _⟩ := tx_cells hq.1
          go_simp; (try with_reducible rfl)
        try simp only [Act.put, List.getElem_toArray, List.getElem_cons_zero, List.getElem_cons_succ, List.setIfInBounds_toArray, List.set_cons_zero, List.set_cons_succ]

        refine wpAnyH_done (by kernel_rfl) ?_ _
        have HS := Lib.hid hS
        clear hS
        go_wp2_with fail
        refine bodyPost_ret (results_nd3 rfl _ _ w.heap.size (RfC 0 noB (.slice none 0 0)) (0, 0) rfl HS.out.2.1 (noB_l _ _)) rfl ?_
        exact ⟨HS.out.2.2, _, _, _, rfl, noB_l _ _, noB_one _ _ _ _, .inr ⟨HNO.out, .inl (by omega)⟩⟩

      · obtain rfl : j = s.size := by omega
        have hjd : decide ((s.size : Int) < s.size) = false := by simp
        have HSI := Lib.hid (rsize_any r.size r (Nat.le_refl _) hrs w4 cs H4.out.2.2.2.1.rf)
        obtain ⟨z, hz⟩ : ∃ z, z = r.size := ⟨_, rfl⟩
        rw [← hz] at HSI
        have HZ := Lib.hid hz
        have HOP := Lib.hid (show OrP s.data.toList 0 [] 0 r s.data.toList.length by rw [HLL.out]; exact (HOK.out rfl).1)
        clear hz
        go_upto_region 7 with fail
        go_wp2_with (refine ld30 rfl _ rfl B 0 cs rfl (row_range H4.out.2.2.1) HLE.out ?_)
        refine HSI.out.mono ?_
        rintro e w5 ⟨rfl, hb5⟩
        have HZW := Lib.hid (show w5.heap[w.heap.size]? = some (.cells (RfC 0 noB (.slice none 0 0)).toArray 36 (0, 0)) ∧ Below w.heap.size w w5 from ⟨(hb5.block _ (lt_of_heap H4.out.2.1)).trans H4.out.2.1, below_tr H4.out.2.2.2.2 hb5 H4.out.2.2.2.2.size⟩)
        have HN5 := Lib.hid ((hb5.block _ (lt_of_heap H4.out.2.2.1)).trans H4.out.2.2.1)
        have HV5 := Lib.hid (H4.out.2.2.2.1.keep (Kb.of_below (fun _ => False) hb5) (fun _ _ _ h => h))
        clear hb5 HSI c0 c1 c2 c3 c4 H4
        by_cases h400 : 400 < z
        · have hzi : (400 : Int) < z := by omega
          have HNO := Lib.hid (HOP.out.great (by rw [← HZ.out]; exact h400))
          go_wp2_with (first | (refine bd0 rfl rfl ?_) | (refine st30o rfl rfl _ _ rfl w.heap.size (RfC 0 noB (.slice none 0 0)) (RfC 0 noB (.slice none 0 0)) rfl rfl HZW.out.1 (noB_l _ _) (noB_l _ _) (noB_one _ _ _ _) ?_))
          refine bodyPost_ret (results_nd3 rfl _ _ w.heap.size (RfC 0 noB (.slice none 0 0)) (0, 0) rfl (setRow_heap _ _ _ _ 36 (0, 0) HZW.out.1) (noB_l _ _)) rfl ?_
          exact ⟨HZW.out.2.trans ((setRow_kb _ w.heap.size _).below HZW.out.2.size (fun i hi => by omega)), _, _, _, rfl, noB_l _ _, noB_one _ _ _ _, .inr ⟨HNO.out, .inr rfl⟩⟩

        · have hzi : ¬ (400 : Int) < z := by omega
          have hzd : decide ((400 : Int) < z) = false := decide_eq_false hzi
          have HYES := Lib.hid (HOP.out.parse (by rw [← HZ.out]; omega))
          have HSZ := Lib.hid (show r.size ≤ 400 by rw [← HZ.out]; omega)
          go_wp2_with (first | (refine ld30 rfl _ rfl B 0 cs rfl (row_range HN5.out) HLE.out ?_) | (refine st30o rfl rfl _ _ rfl w.heap.size cs (RfC 0 noB (.slice none 0 0)) rfl rfl HZW.out.1 (noB_l _ _) HLE.out HV5.out.rf.one ?_))
          refine bodyPost_ret (results_nd3 rfl _ _ w.heap.size cs (0, 0) rfl (setRow_heap _ _ _ _ 36 (0, 0) HZW.out.1) HLE.out) rfl ?_
          exact ⟨HZW.out.2.trans ((setRow_kb _ w.heap.size _).below HZW.out.2.size (fun i hi => by omega)), _, _, _, rfl, HLE.out, HV5.out.rf.one, .inl ⟨r, HYES.out, HSZ.out, rfl, rfl, (HV5.out.keep (setRow_kb w5 w.heap.size cs.toArray) (fun i _ h he => by omega)).mono (fun i _ h => by omega)⟩⟩
    · have HNO := Lib.hid (HBD.out rfl)
      go_upto_region 6 with fail
      refine wp_region_held_drew (S := fun w' => TxB w' (w.heap.size + 1) s j D true false ∧ w'.heap[w.heap.size]? = some (.cells (RfC 0 noB (.slice none 0 0)).toArray 36 (0, 0)) ∧ Below w.heap.size w w') (by kernel_rfl) ⟨H4.out.1.below ((Below.refl _ w4).drew), (((Below.refl _ w4).drew).block _ (lt_of_heap H4.out.2.1)).trans H4.out.2.1, H4.out.2.2.2.2.drew⟩ ?_
      intro hS
      change wpAnyH _ _ _ _ _ 8 (Array.replicate 8 false) _ (World.drew _)
      generalize w4.drew = wz at hS ⊢
      refine wpAnyH_take (i := 0) rfl (by kernel_rfl) (by kernel_rfl) (by kernel_rfl) (fun _ _ _ h => h) (yields_bd0 (by rfl) rfl) hS ?_
      try simp only [Act.put, List.getElem_toArray, List.getElem_cons_zero, List.setIfInBounds_toArray, List.set_cons_zero, List.set_cons_succ]

      refine wpAnyH_take (i := 1) (v := ?_) rfl (by kernel_rfl) (by kernel_rfl) (by kernel_rfl) (fun _ _ _ h => h) (Or.inl ⟨by rfl, ?_⟩) hS ?_
      rotate_left 1
      · intro wq hq
        obtain ⟨q0, q1, q2, q3, q4, _⟩ := tx_cells hq.1
        go_simp; (try with_reducible rfl)
      try simp only [Act.put, List.getElem_toArray, List.getElem_cons_zero, List.getElem_cons_succ, List.setIfInBounds_toArray, List.set_cons_zero, List.set_cons_succ]

      refine wpAnyH_take (i := 2) (v := ?_) rfl (by kernel_rfl) (by kernel_rfl) (by kernel_rfl) (fun _ _ _ h => h) (Or.inl ⟨by rfl, ?_⟩) hS ?_
      rotate_left 1
      · intro wq hq
        obtain ⟨q0, q1, q2, q3, q4, _⟩ := tx_cells hq.1
        go_simp; (try with_reducible rfl)
      try simp only [Act.put, List.getElem_toArray, List.getElem_cons_zero, List.getElem_cons_succ, List.setIfInBounds_toArray, List.set_cons_zero, List.set_cons_succ]

      refine wpAnyH_take (i := 3) (v := ?_) rfl (by kernel_rfl) (by kernel_rfl) (by kernel_rfl) (fun _ _ _ h => h) (Or.inl ⟨by rfl, ?_⟩) hS ?_
      rotate_left 1
      · intro wq hq
        obtain ⟨q0, q1, q2, q3, q4, _⟩ := tx_cells hq.1
        go_simp; (try with_reducible rfl)
      try simp only [Act.put, List.getElem_toArray, List.getElem_cons_zero, List.getElem_cons_succ, List.setIfInBounds_toArray, List.set_cons_zero, List.set_cons_succ]

      refine wpAnyH_take (i := 4) (v := ?_) rfl (by kernel_rfl) (by kernel_rfl) (by kernel_rfl) (fun _ _ _ h => h) (Or.inl ⟨by rfl, ?_⟩) hS ?_
      rotate_left 1
      · intro wq hq
        obtain ⟨q0, q1, q2, q3, q4, _⟩ := tx_cells hq.1
        go_simp; (try with_reducible rfl)
      try simp only [Act.put, List.getElem_toArray, List.getElem_cons_zero, List.getElem_cons_succ, List.setIfInBounds_toArray, List.set_cons_zero, List.set_cons_succ]

      refine wpAnyH_ready (rs := [5]) (by kernel_rfl) (by simp) ?_
      refine AllReadyH.cons rfl (fun K' hK => ?_) AllReadyH.nil
      rw [if_pos (by rfl)]
      refine wp_st30 (.tmp 2) (.tmp 30) rfl w.heap.size (RfC 0 noB (.slice none 0 0)) _ rfl rfl hS.2.1 (noB_l _ _) (noB_l _ _) (noB_one _ _ _ _) ?_
      have kz := setRow_kb wz w.heap.size (RfC 0 noB (.slice none 0 0)).toArray
      have hz1 : (wz.setRow w.heap.size (RfC 0 noB (.slice none 0 0)).toArray).heap[w.heap.size]? = some (.cells (RfC 0 noB (.slice none 0 0)).toArray 36 (0, 0)) := setRow_heap _ _ _ _ 36 (0, 0) hS.2.1
      have hz2 : Below w.heap.size w (wz.setRow w.heap.size (RfC 0 noB (.slice none 0 0)).toArray) := hS.2.2.trans (kz.below hS.2.2.size (fun i hi => by omega))
      refine hK.out _ _ ⟨(kz.block _ (lt_of_heap hS.1) (by omega)).trans hS.1, hz1, hz2⟩ (fun hS => ?_)
      clear hK K' kz hz1 hz2
      generalize wz.setRow w.heap.size (RfC 0 noB (.slice none 0 0)).toArray = wy at hS ⊢
      try simp only [Act.put, List.getElem_toArray, List.getElem_cons_zero, List.getElem_cons_succ]

      refine wpAnyH_take (i := 6) (v := ?_) rfl (by kernel_rfl) (by kernel_rfl) (by kernel_rfl) (fun _ _ _ h => h) (Or.inl ⟨by rfl, ?_⟩) hS ?_
      rotate_left 1
      · intro wq hq
        obtain ⟨q0, q1, q2, q3, q4, _⟩ := tx_cells hq.1
        go_simp; (try with_reducible rfl)
      try simp only [Act.put, List.getElem_toArray, List.getElem_cons_zero, List.getElem_cons_succ, List.setIfInBounds_toArray, List.set_cons_zero, List.set_cons_succ]

      refine wpAnyH_take (i := 7) (v := ?_) rfl (by kernel_rfl) (by kernel_rfl) (by kernel_rfl) (fun _ _ _ h => h) (Or.inl ⟨by rfl, ?_⟩) hS ?_
      rotate_left 1
      · intro wq hq
        obtain ⟨q0, q1, q2, q3, q4, _⟩ := tx_cells hq.1
        go_simp; (try with_reducible rfl)
      try simp only [Act.put, List.getElem_toArray, List.getElem_cons_zero, List.getElem_cons_succ, List.setIfInBounds_toArray, List.set_cons_zero, List.set_cons_succ]

      refine wpAnyH_done (by kernel_rfl) ?_ _
      have HS := Lib.hid hS
      clear hS
      go_wp2_with fail
      refine bodyPost_ret (results_nd3 rfl _ _ w.heap.size (RfC 0 noB (.slice none 0 0)) (0, 0) rfl HS.out.2.1 (noB_l _ _)) rfl ?_
      exact ⟨HS.out.2.2, _, _, _, rfl, noB_l _ _, noB_one _ _ _ _, .inr ⟨HNO.out, .inl (by omega)⟩⟩

  · have HNO := Lib.hid (HGR.out rfl)
    have HZW := Lib.hid (And.intro H4.out.2.1 H4.out.2.2.2.2)
    go_upto_region 4 with fail
    go_wp2_with (first | (refine bd0 rfl rfl ?_) | (refine st30o rfl rfl _ _ rfl w.heap.size (RfC 0 noB (.slice none 0 0)) (RfC 0 noB (.slice none 0 0)) rfl rfl HZW.out.1 (noB_l _ _) (noB_l _ _) (noB_one _ _ _ _) ?_))
    refine bodyPost_ret (results_nd3 rfl _ _ w.heap.size (RfC 0 noB (.slice none 0 0)) (0, 0) rfl (setRow_heap _ _ _ _ 36 (0, 0) HZW.out.1) (noB_l _ _)) rfl ?_
    exact ⟨HZW.out.2.trans ((setRow_kb _ w.heap.size _).below HZW.out.2.size (fun i hi => by omega)), _, _, _, rfl, noB_l _ _, noB_one _ _ _ _, .inr ⟨HNO.out, .inr rfl⟩⟩

end Go.Proofs.YtejdfpieblkapaaGreatDoor
