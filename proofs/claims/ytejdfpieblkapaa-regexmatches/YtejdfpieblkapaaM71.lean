/- Nullable; the document's Matches; RegexMatches. -/
import Derived.Test.YtejdfpieblkapaaM47
import Derived.Test.YtejdfpieblkapaaM67
import Derived.Test.YtejdfpieblkapaaM70
namespace Go.Proofs.Ytejdfpieblkapaa
open Go.RowKit Go.Shelf

set_option maxHeartbeats 1000000 in
theorem null_any (w : World) (r : Rx) (nb : Nat) (h : NdAt w r nb) : Calls Try.prog 11 #[ptr nb] w (Ans (.bool r.nul) w) := by
  obtain ⟨A, n, hb, _⟩ := h.blk
  have c7 : w.cell? ⟨nb, 7, none⟩ = some (.bool r.nul) := by rw [Lib.cell_of_heap hb]; rfl
  clear hb h
  generalize r.nul = β at c7
  go_enter Try.func11, Try.ntmps11
  go_wp2
  go_ret
  exact ⟨rfl, Below.refl _ _⟩
set_option maxHeartbeats 1000000 in
theorem null_nil (w : World) : Calls Try.prog 11 #[.pointer none] w (Ans (.bool false) w) := by
  go_enter Try.func11, Try.ntmps11
  go_wp2
  go_ret
  exact ⟨rfl, Below.refl _ _⟩
theorem En_whole {r : Rx} {T : List UInt8} {o : Nat → Bool} (h : En r T (fun i => if i = 0 then true else false) o) : o T.length = r.mt T := by
  rw [Bool.eq_iff_iff, h T.length (Nat.le_refl _), Rx.mt_iff, List.take_length]
  constructor
  · rintro ⟨j, _, hj, hL⟩
    by_cases e : j = 0
    · subst e; simpa using hL
    · simp [e] at hj
  · intro hL
    exact ⟨0, Nat.zero_le _, rfl, by simpa using hL⟩
set_option maxRecDepth 100000 in
set_option maxHeartbeats 1000000 in
theorem rmatches_any (w : World) (r : Rx) (cs : List Value) (t : ByteArray) (h : RfV w r cs) (ht : t.size ≤ 10000) : Calls Try.prog 12 #[.agg cs.toArray, .string t] w (Ans (.bool (r.mt t.data.toList)) w) := by
  obtain ⟨n, hn⟩ : ∃ n, n = t.size + 1 := ⟨_, rfl⟩
  have hb0 : Below w.heap.size w (w.alloc (.cells cs.toArray 30)) := (Below.refl _ w).alloc (Nat.le_refl _) _
  have hblk := heap_alloc_new w (.cells cs.toArray 30)
  have p1 : IntKind.i64.wrap ((t.size : Int) + 1) = (n : Int) := by rw [hn, IntWalk.i64_in _ (by omega)]; omega
  obtain ⟨i0, hi0, hz0, hz1, hz2⟩ := info_parts Try.info4
  have HI := Lib.hid hi0; have HZ0 := Lib.hid hz0; have HZ1 := Lib.hid hz1; have HZ2 := Lib.hid hz2
  clear hi0 hz0 hz1 hz2
  have hnb : n ≤ 10001 := by omega
  have hnp : 0 < n := by omega
  have hb1 := hb0.alloc (show w.heap.size ≤ (w.alloc (.cells cs.toArray 30)).heap.size by simp) (.cells (madeCells #[.bool false] n) 4)
  have hO := BlR.made (w.alloc (.cells cs.toArray 30)) n
  have hsz : (w.alloc (.cells cs.toArray 30)).heap.size = w.heap.size + 1 := by simp
  rw [hsz] at hO
  have hB := (Below.heap_alloc (w.alloc (.cells cs.toArray 30)) (.cells (madeCells #[.bool false] n) 4) w.heap.size (by simp)).trans hblk
  have HN := Lib.hid hn; have HB1 := Lib.hid hb1; have HO := Lib.hid hO; have HBk := Lib.hid hB; have HV := Lib.hid h
  have hni : (0 : Int) < n := by omega
  have htn : (t.size : Int) < n := by omega
  have htN : t.size < n := by omega
  clear hn hb0 hblk hb1 hO hB hsz h
  go_enter Try.func12, Try.ntmps12
  go_upto_region 2 with (at_make; refine wpList_make_row _ rfl _ _ 77 rfl 4 i0 (.bool false) Try.underlying77 HI.out HZ0.out HZ1.out rfl .i64 .i64 n rfl rfl (by rw [HZ2.out]; omega) (by omega) ?_)
  generalize (w.alloc (.cells cs.toArray 30)).alloc (.cells (madeCells #[.bool false] n) 4) = w1 at HB1 HO HBk ⊢
  obtain ⟨x1, x2⟩ := HO.out.cell hnp
  have kb := Kb.setCell w1 ⟨w.heap.size + 1, 0, none⟩ (.bool true)
  have HO2 := Lib.hid (HO.out.set 0 true)
  have HB2 := Lib.hid (HB1.out.trans (kb.below HB1.out.size (fun i hi => by rw [hi]; show w.heap.size ≤ w.heap.size + 1; omega)))
  have HBk2 := Lib.hid ((kb.block _ (lt_of_heap HBk.out) (by show w.heap.size ≠ w.heap.size + 1; omega)).trans HBk.out)
  clear kb
  go_upto_region 3 with fail
  generalize w1.setCell ⟨w.heap.size + 1, 0, none⟩ (.bool true) = w2 at HO2 HB2 HBk2 ⊢
  clear x1 x2
  have HCA := Lib.hid (ends_any r w2 cs t (w.heap.size + 1) n _ (HV.out.below HB2.out) ht HN.out HO2.out)
  go_wp2_with (refine ld30 rfl _ rfl w.heap.size 0 cs rfl (row_range HBk2.out) HV.out.len ?_)
  refine HCA.out.mono ?_
  rintro e w3 ⟨O, o, rfl, hO3, hE, hb3, _⟩
  have y1 := (hO3.cell htN).1
  have HE := Lib.hid (show o t.size = r.mt t.data.toList by rw [Lib.size_eq]; exact En_whole (hE.ext (fun _ _ => rfl)))
  have HB3 := Lib.hid (below_tr HB2.out hb3 HB2.out.size)
  have ht0 : (0 : Int) ≤ t.size := by omega
  clear hO3 hE hb3 HCA
  go_wp2_with fail
  go_ret
  exact ⟨by rw [HE.out]; rfl, HB3.out⟩

set_option maxRecDepth 100000 in
set_option maxHeartbeats 1000000 in
theorem matches_long (s t : ByteArray) (w : World) (h : 60 < s.size ∨ 24 < t.size) : Calls Try.prog 3 #[.string s, .string t] w (Ans (.bool true) w) := by
  by_cases h1 : 60 < s.size
  · have h1i : (60 : Int) < s.size := by omega
    go_enter Try.func3, Try.ntmps3
    go_wp2_with fail
    refine (awake_any w).mono ?_
    rintro e w1 ⟨rfl, hb⟩
    go_wp2
    go_ret
    exact ⟨rfl, hb⟩
  · have h1i : ¬ (60 : Int) < s.size := by omega
    have h2i : (24 : Int) < t.size := by omega
    go_enter Try.func3, Try.ntmps3
    go_wp2_with fail
    refine (awake_any w).mono ?_
    rintro e w1 ⟨rfl, hb⟩
    go_wp2
    go_ret
    exact ⟨rfl, hb⟩
theorem ptr_eq (nb : Nat) : Value.pointer (some ⟨nb, 0, none⟩) = ptr nb := rfl
set_option maxRecDepth 100000 in
set_option maxHeartbeats 1000000 in
theorem matches_short (s t : ByteArray) (w : World) (h1 : s.size ≤ 60) (h2 : t.size ≤ 24) : Calls Try.prog 3 #[.string s, .string t] w (Ans (.bool true) w) := by
  have h1i : ¬ (60 : Int) < s.size := by omega
  have h2i : ¬ (24 : Int) < t.size := by omega
  go_enter Try.func3, Try.ntmps3
  go_wp2_with fail
  refine (awake_any w).mono ?_
  rintro e w1 ⟨rfl, hb⟩
  have HB0 := Lib.hid hb
  clear hb
  go_wp2_with fail
  refine (parse_u s w1 (by omega)).mono ?_
  rintro e w2 ⟨po, p, c, rfl, hb2, x1, x2⟩
  have HX1 := Lib.hid x1; have HX2 := Lib.hid x2; have HB2 := Lib.hid hb2
  clear x1 x2 hb2
  go_wp2_with fail
  refine (rparse_r s w2 (by omega)).mono ?_
  rintro e w3 ⟨hb3, cs, bad, gr, rfl, hl1, hl2, hcase⟩
  have HB3 := Lib.hid hb3; have HCS := Lib.hid hcase
  clear hb3 hcase
  have HLE := Lib.hid (And.intro hl1 hl2)
  clear hl1 hl2
  have HAL := Lib.hid (alloc_res w3)
  have hal : Below w3.heap.size w3 (w3.alloc (.cells Try.zeroCells30 30)) := (Below.refl _ w3).alloc (Nat.le_refl _) _
  have k4 : Kb (fun i => i = w3.heap.size) w3 ((w3.alloc (.cells Try.zeroCells30 30)).setRow w3.heap.size cs.toArray) := (Kb.of_below _ hal).trans (setRow_kb _ _ _) (fun _ _ h => h)
  have HB4 := Lib.hid (k4.below (Nat.le_refl _) (fun i hi => by omega))
  have HN4 := Lib.hid (show ((w3.alloc (.cells Try.zeroCells30 30)).setRow w3.heap.size cs.toArray).heap[w3.heap.size]? = some (.cells cs.toArray 30 (0, 0)) from setRow_heap _ _ _ _ 30 (0, 0) (alloc_res w3))
  clear hal k4
  go_upto_region 5 with (refine st30o rfl rfl _ _ rfl w3.heap.size cs (RfC 0 noB (.slice none 0 0)) rfl rfl HAL.out (noB_l _ _) HLE.out.1 HLE.out.2 ?_)
  generalize (w3.alloc (.cells Try.zeroCells30 30)).setRow w3.heap.size cs.toArray = w4 at HB4 HN4 ⊢
  clear HAL
  have HBa := Lib.hid (below_tr (below_tr (below_tr HB0.out HB2.out HB0.out.size) HB3.out (Nat.le_trans HB0.out.size HB2.out.size)) HB4.out (Nat.le_trans (Nat.le_trans HB0.out.size HB2.out.size) HB3.out.size))
  rcases HCS.out with ⟨r, hp, hsz, hbad, hgr, hv⟩ | ⟨hno, hw⟩
  · have hc : c = 0 := by
      by_cases e : c = 0
      · exact e
      · have := (HX2.out e).2; rw [hp] at this; cases this
    obtain ⟨r', nb, e1, e2, e3, e4⟩ := HX1.out hc
    rw [hp] at e2
    injection e2 with e2
    subst e2
    subst e1
    subst hgr
    have hbn : ¬ (0 : Int) ≤ bad := by omega
    have hbd : decide ((0 : Int) ≤ bad) = false := decide_eq_false hbn
    have HNd := Lib.hid (show ∀ w', Below w4.heap.size w4 w' → NdAt w' r nb from fun w' hb => (e4.keep (KN.of_below HB3.out)).keep (KN.of_below (below_tr HB4.out hb HB4.out.size)))
    have HVd := Lib.hid (show ∀ w', Below w4.heap.size w4 w' → RfV w' r cs from fun w' hb => (hv.below HB4.out).below hb)
    obtain ⟨B, hB⟩ : ∃ B, B = w3.heap.size := ⟨_, rfl⟩
    rw [← hB] at HN4 ⊢
    have HRB := Lib.hid (show ∀ w', Below w4.heap.size w4 w' → w'.rangeAt B 0 cs from fun w' hb => row_range ((hb.block B (lt_of_heap HN4.out)).trans HN4.out))
    have HIN := Lib.hid (show (Try.prog.info? 30).map (·.size) = some cs.length by rw [HLE.out.1]; exact Try.info30)
    have HNU := Lib.hid (show r.nul = r.mt [] by rw [Bool.eq_iff_iff, Rx.nul_iff, Rx.mt_iff])
    have HM1 := Lib.hid (fun w' (hb : Below w4.heap.size w4 w') => matches_mt w' r nb t (HNd.out w' hb) (by omega) (by omega))
    have HM2 := Lib.hid (fun w' (hb : Below w4.heap.size w4 w') => rmatches_any w' r cs t (HVd.out w' hb) (by omega))
    have HM3 := Lib.hid (fun w' (hb : Below w4.heap.size w4 w') => null_any w' r nb (HNd.out w' hb))
    have HM4 := Lib.hid (fun w' (hb : Below w4.heap.size w4 w') => rmatches_any w' r cs ⟨#[]⟩ (HVd.out w' hb) (by decide))
    rw [HNU.out] at HM3
    have HM4' := Lib.hid (show ∀ w', Below w4.heap.size w4 w' → Calls Try.prog 12 #[.agg cs.toArray, .string ⟨#[]⟩] w' (Ans (.bool (r.mt [])) w') from HM4.out)
    generalize r.mt t.data.toList = β1 at HM1 HM2
    generalize r.mt [] = β2 at HM3 HM4'
    clear hp hsz hbad hv e3 e4 hc HM4 HNU HCS HX1 HX2 hB HNd HVd HN4 HLE
    go_upto_region 7 with fail
    refine wp_region_held_drew (S := fun w' => Below w4.heap.size w4 w') (by kernel_rfl) ((Below.refl _ w4).drew) ?_
    intro hS
    change wpAnyH _ _ _ _ _ 15 (Array.replicate 15 false) _ (World.drew _)
    generalize w4.drew = wz at hS ⊢
    cases β1 <;> cases β2 <;> (
      refine wpAnyH_take (i := 0) (v := ?_) rfl (by kernel_rfl) (by kernel_rfl) (by kernel_rfl) (fun _ _ _ h => h) (Or.inl ⟨by rfl, ?_⟩) hS ?_
      rotate_left 1
      · intro wq hq
        go_simp; (try with_reducible rfl)
      try simp only [Act.put, List.getElem_toArray, List.getElem_cons_zero, List.getElem_cons_succ, List.setIfInBounds_toArray, List.set_cons_zero, List.set_cons_succ]

      refine wpAnyH_take (i := 1) (v := ?_) rfl (by kernel_rfl) (by kernel_rfl) (by kernel_rfl) (fun _ _ _ h => h) (Or.inl ⟨by rfl, ?_⟩) hS ?_
      rotate_left 1
      · intro wq hq
        go_simp; (try with_reducible rfl)
      try simp only [Act.put, List.getElem_toArray, List.getElem_cons_zero, List.getElem_cons_succ, List.setIfInBounds_toArray, List.set_cons_zero, List.set_cons_succ]

      refine wpAnyH_take (i := 3) rfl (by kernel_rfl) (by kernel_rfl) (by kernel_rfl) (fun _ _ _ h => h) (yieldsIf_load_mid (by rfl) 30 (.tmp 8) rfl B 0 rfl cs _ (fun w' h => HRB.out w' h) Try.underlying30 rfl HIN.out) hS ?_
      try simp only [Act.put, List.getElem_toArray, List.getElem_cons_zero, List.getElem_cons_succ, List.setIfInBounds_toArray, List.set_cons_zero, List.set_cons_succ]

      refine wpAnyH_take (i := 4) (v := ?_) rfl (by kernel_rfl) (by kernel_rfl) (by kernel_rfl) (fun _ _ _ h => h) (Or.inl ⟨by rfl, ?_⟩) hS ?_
      rotate_left 1
      · intro wq hq
        go_simp; (try with_reducible rfl)
      try simp only [Act.put, List.getElem_toArray, List.getElem_cons_zero, List.getElem_cons_succ, List.setIfInBounds_toArray, List.set_cons_zero, List.set_cons_succ]

      refine wpAnyH_ready (rs := [2]) (by kernel_rfl) (by simp) ?_
      refine AllReadyH.cons rfl (fun K' hK => ?_) AllReadyH.nil
      go_simp
      go_at_call 10
      refine (HM1.out _ hS).mono ?_
      rintro e wy1 ⟨rfl, hby1⟩
      refine hK.out _ _ (below_tr hS hby1 hS.size) (fun hS => ?_)
      clear hK K' hby1
      try simp only [Act.put, List.getElem_toArray, List.getElem_cons_zero, List.getElem_cons_succ, List.setIfInBounds_toArray, List.set_cons_zero, List.set_cons_succ]

      refine wpAnyH_ready (rs := [5]) (by kernel_rfl) (by simp) ?_
      refine AllReadyH.cons rfl (fun K' hK => ?_) AllReadyH.nil
      go_simp
      go_at_call 12
      refine (HM2.out _ hS).mono ?_
      rintro e wy2 ⟨rfl, hby2⟩
      refine hK.out _ _ (below_tr hS hby2 hS.size) (fun hS => ?_)
      clear hK K' hby2
      try simp only [Act.put, List.getElem_toArray, List.getElem_cons_zero, List.getElem_cons_succ, List.setIfInBounds_toArray, List.set_cons_zero, List.set_cons_succ]

      refine wpAnyH_take (i := 6) (v := ?_) rfl (by kernel_rfl) (by kernel_rfl) (by kernel_rfl) (fun _ _ _ h => h) (Or.inl ⟨by rfl, ?_⟩) hS ?_
      rotate_left 1
      · intro wq hq
        go_simp; (try with_reducible rfl)
      try simp only [Act.put, List.getElem_toArray, List.getElem_cons_zero, List.getElem_cons_succ, List.setIfInBounds_toArray, List.set_cons_zero, List.set_cons_succ]

      refine wpAnyH_take (i := 7) (v := ?_) rfl (by kernel_rfl) (by kernel_rfl) (by kernel_rfl) (fun _ _ _ h => h) (Or.inl ⟨by rfl, ?_⟩) hS ?_
      rotate_left 1
      · intro wq hq
        go_simp; (try with_reducible rfl)
      try simp only [Act.put, List.getElem_toArray, List.getElem_cons_zero, List.getElem_cons_succ, List.setIfInBounds_toArray, List.set_cons_zero, List.set_cons_succ]

      refine wpAnyH_take (i := 8) (v := ?_) rfl (by kernel_rfl) (by kernel_rfl) (by kernel_rfl) (fun _ _ _ h => h) (Or.inl ⟨by rfl, ?_⟩) hS ?_
      rotate_left 1
      · intro wq hq
        go_simp; (try with_reducible rfl)
      try simp only [Act.put, List.getElem_toArray, List.getElem_cons_zero, List.getElem_cons_succ, List.setIfInBounds_toArray, List.set_cons_zero, List.set_cons_succ]

      refine wpAnyH_take (i := 10) rfl (by kernel_rfl) (by kernel_rfl) (by kernel_rfl) (fun _ _ _ h => h) (yieldsIf_load_mid (by rfl) 30 (.tmp 8) rfl B 0 rfl cs _ (fun w' h => HRB.out w' h) Try.underlying30 rfl HIN.out) hS ?_
      try simp only [Act.put, List.getElem_toArray, List.getElem_cons_zero, List.getElem_cons_succ, List.setIfInBounds_toArray, List.set_cons_zero, List.set_cons_succ]

      refine wpAnyH_ready (rs := [9]) (by kernel_rfl) (by simp) ?_
      refine AllReadyH.cons rfl (fun K' hK => ?_) AllReadyH.nil
      go_simp
      go_at_call 11
      refine (HM3.out _ hS).mono ?_
      rintro e wy3 ⟨rfl, hby3⟩
      refine hK.out _ _ (below_tr hS hby3 hS.size) (fun hS => ?_)
      clear hK K' hby3
      try simp only [Act.put, List.getElem_toArray, List.getElem_cons_zero, List.getElem_cons_succ, List.setIfInBounds_toArray, List.set_cons_zero, List.set_cons_succ]

      refine wpAnyH_ready (rs := [11]) (by kernel_rfl) (by simp) ?_
      refine AllReadyH.cons rfl (fun K' hK => ?_) AllReadyH.nil
      go_simp
      go_at_call 12
      refine (HM4'.out _ hS).mono ?_
      rintro e wy4 ⟨rfl, hby4⟩
      refine hK.out _ _ (below_tr hS hby4 hS.size) (fun hS => ?_)
      clear hK K' hby4
      try simp only [Act.put, List.getElem_toArray, List.getElem_cons_zero, List.getElem_cons_succ, List.setIfInBounds_toArray, List.set_cons_zero, List.set_cons_succ]

      refine wpAnyH_take (i := 12) (v := ?_) rfl (by kernel_rfl) (by kernel_rfl) (by kernel_rfl) (fun _ _ _ h => h) (Or.inl ⟨by rfl, ?_⟩) hS ?_
      rotate_left 1
      · intro wq hq
        go_simp; (try with_reducible rfl)
      try simp only [Act.put, List.getElem_toArray, List.getElem_cons_zero, List.getElem_cons_succ, List.setIfInBounds_toArray, List.set_cons_zero, List.set_cons_succ]

      refine wpAnyH_take (i := 13) (v := ?_) rfl (by kernel_rfl) (by kernel_rfl) (by kernel_rfl) (fun _ _ _ h => h) (Or.inl ⟨by rfl, ?_⟩) hS ?_
      rotate_left 1
      · intro wq hq
        go_simp; (try with_reducible rfl)
      try simp only [Act.put, List.getElem_toArray, List.getElem_cons_zero, List.getElem_cons_succ, List.setIfInBounds_toArray, List.set_cons_zero, List.set_cons_succ]

      refine wpAnyH_take (i := 14) (v := ?_) rfl (by kernel_rfl) (by kernel_rfl) (by kernel_rfl) (fun _ _ _ h => h) (Or.inl ⟨by rfl, ?_⟩) hS ?_
      rotate_left 1
      · intro wq hq
        go_simp; (try with_reducible rfl)
      try simp only [Act.put, List.getElem_toArray, List.getElem_cons_zero, List.getElem_cons_succ, List.setIfInBounds_toArray, List.set_cons_zero, List.set_cons_succ]

      refine wpAnyH_done (by kernel_rfl) ?_ _
      have HS := Lib.hid hS
      clear hS
      go_wp2_with fail
      go_ret
      exact ⟨rfl, below_tr HBa.out HS.out HBa.out.size⟩)
  · have hc : ¬ c = 0 := fun e => by
      obtain ⟨r', nb, _, e2, _⟩ := HX1.out e
      rw [hno] at e2; cases e2
    obtain ⟨rfl, _⟩ := HX2.out hc
    have hcb : (c == 0) = false := by simp [hc]
    have hcb2 : (c != 0) = true := by simp [hc]
    have HW := Lib.hid hw
    clear hno hw HCS HX1 HX2
    by_cases hb : 0 ≤ bad
    · go_wp2_with fail
      refine (matches_nil w4 t).mono ?_
      rintro e w5 ⟨rfl, rfl⟩
      go_wp2_with fail
      refine (null_nil w5).mono ?_
      rintro e w6 ⟨rfl, hb6⟩
      have HB6 := Lib.hid hb6
      clear hb6
      go_wp2_with fail
      go_ret
      exact ⟨rfl, below_tr HBa.out HB6.out HBa.out.size⟩
    · have hbd : decide ((0 : Int) ≤ bad) = false := decide_eq_false hb
      obtain rfl : gr = true := HW.out.resolve_left hb
      go_wp2_with fail
      refine (matches_nil w4 t).mono ?_
      rintro e w5 ⟨rfl, rfl⟩
      go_wp2_with fail
      refine (null_nil w5).mono ?_
      rintro e w6 ⟨rfl, hb6⟩
      have HB6 := Lib.hid hb6
      clear hb6
      go_wp2_with fail
      go_ret
      exact ⟨rfl, below_tr HBa.out HB6.out HBa.out.size⟩
theorem law_matches (s t : ByteArray) (w : World) : Calls Try.prog 3 #[.string s, .string t] w (Ans (.bool true) w) := by
  by_cases h : 60 < s.size ∨ 24 < t.size
  · exact matches_long s t w h
  · exact matches_short s t w (by omega) (by omega)
end Go.Proofs.Ytejdfpieblkapaa
