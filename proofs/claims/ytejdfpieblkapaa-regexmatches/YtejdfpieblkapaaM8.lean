/- What begin does to an or. -/
import Derived.Test.YtejdfpieblkapaaM7
namespace Go.Proofs.Ytejdfpieblkapaa
open Go.RowKit

theorem sp_ty {w : World} {r : Rx} {g : Gh} {root b : Nat} {p : Path} (h : SpAt w r g root) (hb : g.σ p = some b) : ∃ cs, w.heap[b]? = some (.cells cs 68 (0, 0)) := by
  obtain ⟨_, _, _, _, h3⟩ := h.at' p b hb
  exact ⟨_, h3⟩

def OrFin (g g' : Gh) (p : Path) (b b0 b1 : Nat) (w w' : World) : Prop :=
  Gg g g' ∧ g'.σ (0 :: p) = some b0 ∧ g'.σ (1 :: p) = some b1 ∧ (∀ q, q ≠ 0 :: p → q ≠ 1 :: p → g'.σ q = g.σ q) ∧ Kb (fun i => i = b) w w'

theorem or_fin01 {w w2 w4 : World} {r : Rx} {g g2 g4 : Gh} {root b b0 b1 : Nat} {p : Path} (_h : SpAt w r g root) (_hb : g.σ p = some b) (s1 : g2.σ (0 :: p) = some b0) (s2 : g2.bg = g.bg) (s3 : g2.en = g.en) (s4 : ∀ q, q ≠ 0 :: p → g2.σ q = g.σ q) (_s5 : SpAt w2 r g2 root) (s6 : Kb (fun i => i = b) w w2) (s7 : ∀ q c, g.σ q = some c → g2.σ q = some c)
    (t1 : g4.σ (1 :: p) = some b1) (t2 : g4.bg = g2.bg) (t3 : g4.en = g2.en) (t4 : ∀ q, q ≠ 1 :: p → g4.σ q = g2.σ q) (_t5 : SpAt w4 r g4 root) (t6 : Kb (fun i => i = b) w2 w4) (t7 : ∀ q c, g2.σ q = some c → g4.σ q = some c) : OrFin g g4 p b b0 b1 w w4 :=
  ⟨⟨t2.trans s2, t3.trans s3, fun _q _c h => t7 _ _ (s7 _ _ h)⟩, t7 _ _ s1, t1, fun q h0 h1 => (t4 q h1).trans (s4 q h0), s6.trans t6 (fun _ _ h => h)⟩
theorem or_fin10 {w w2 w4 : World} {r : Rx} {g g2 g4 : Gh} {root b b0 b1 : Nat} {p : Path} (_h : SpAt w r g root) (_hb : g.σ p = some b) (s1 : g2.σ (1 :: p) = some b1) (s2 : g2.bg = g.bg) (s3 : g2.en = g.en) (s4 : ∀ q, q ≠ 1 :: p → g2.σ q = g.σ q) (_s5 : SpAt w2 r g2 root) (s6 : Kb (fun i => i = b) w w2) (s7 : ∀ q c, g.σ q = some c → g2.σ q = some c)
    (t1 : g4.σ (0 :: p) = some b0) (t2 : g4.bg = g2.bg) (t3 : g4.en = g2.en) (t4 : ∀ q, q ≠ 0 :: p → g4.σ q = g2.σ q) (_t5 : SpAt w4 r g4 root) (t6 : Kb (fun i => i = b) w2 w4) (t7 : ∀ q c, g2.σ q = some c → g4.σ q = some c) : OrFin g g4 p b b0 b1 w w4 :=
  ⟨⟨t2.trans s2, t3.trans s3, fun _q _c h => t7 _ _ (s7 _ _ h)⟩, t1, t7 _ _ s1, fun q h0 h1 => (t4 q h0).trans (s4 q h1), s6.trans t6 (fun _ _ h => h)⟩

set_option maxRecDepth 100000 in
set_option maxHeartbeats 2000000 in
theorem begin_or (w : World) (r : Rx) (g : Gh) (root base R τ b : Nat) (p : Path) (x y : Rx) (bv ev sv : Value) (Bl El Sl : List Nat) (hs : SpAt w r g root) (hr : RnAt w base R τ bv ev sv Bl El Sl) (hb : g.σ p = some b) (he : r.at p = some (.or x y)) (hbase : base ≤ w.heap.size) (hbR : base ≤ R) (hbb : base ≤ b) (hl : Bl.length ≤ 1048576) :
    Calls Try.prog 52 #[ptr R, ptr b] w fun e w' => e = .returned (.tuple #[]) ∧ ∃ v' b0 b1 g', RnAt w' base R τ v' ev sv (Bl ++ [b0, b1]) El Sl ∧ SpAt w' r g' root ∧ Fr base w w' ∧ Gg g g' ∧ g'.σ (0 :: p) = some b0 ∧ g'.σ (1 :: p) = some b1 ∧ (∀ q, q ≠ 0 :: p → q ≠ 1 :: p → g'.σ q = g.σ q) := by
  obtain ⟨e, nb, h1, h2, h3⟩ := hs.at' p b hb
  rw [he] at h1
  injection h1 with h1
  subst h1
  obtain ⟨A, n, hnb, hn⟩ := h2.blk
  obtain ⟨sA, sc, rfl, hs1, hs2⟩ := own_form hr.bo
  obtain ⟨ns, hns⟩ : ∃ ns, ns = Bl.length := ⟨_, rfl⟩
  have hr' : RnAt w base R τ (.slice sA ns sc) ev sv Bl El Sl := by rw [hns]; exact hr
  have hrb := hr'.blk
  have c0 : w.cell? ⟨b, 0, none⟩ = some (.pointer (some ⟨nb, 0, none⟩)) := by unfold SpB at h3; rw [Lib.cell_of_heap h3]; rfl
  have c1 : w.cell? ⟨b, 1, none⟩ = some (g.up p) := by unfold SpB at h3; rw [Lib.cell_of_heap h3]; rfl
  have d0 : w.cell? ⟨nb, 0, none⟩ = some (.int .i64 3) := by unfold NdB at hnb; rw [Lib.cell_of_heap hnb]; rfl
  have d5 : w.cell? ⟨nb, 5, none⟩ = some (.slice A 2 2) := by unfold NdB at hnb; rw [Lib.cell_of_heap hnb, hn]; rfl
  have r1 : w.cell? ⟨R, 1, none⟩ = some (.slice sA ns sc) := by rw [Lib.cell_of_heap hrb]; rfl
  have r4 : w.cell? ⟨R, 4, none⟩ = some (.map none) := by rw [Lib.cell_of_heap hrb]; rfl
  obtain ⟨i0, hi0, hz0, hz1, hz2⟩ := info_parts Try.info64
  have HI := Lib.hid hi0; have HZ0 := Lib.hid hz0; have HZ1 := Lib.hid hz1; have HZ2 := Lib.hid hz2
  clear hi0 hz0 hz1 hz2
  rw [← hns] at hl hs1
  have HS := Lib.hid hs; have HR := Lib.hid hr'
  have HNS := Lib.hid hns
  have hRl := lt_of_heap hrb
  have HPAR := Lib.hid hs.par
  have HB := Lib.hid hb
  have HSB := Lib.hid (show ∃ cs, w.heap[b]? = some (.cells cs 68 (0, 0)) from ⟨_, h3⟩)
  have HE := Lib.hid (show r.at (0 :: p) = some x by rw [Rx.at_cons, he]; rfl)
  have HE1 := Lib.hid (show r.at (1 :: p) = some y by rw [Rx.at_cons, he]; rfl)
  clear hs hr hr' h2 h3 hnb hn hrb hns hb he
  rcases p with _ | ⟨k, p⟩
  · have c1' : w.cell? ⟨b, 1, none⟩ = some (.pointer none) := c1
    clear c1
    have hlook : ∀ w' : World, (Instr.lookup 70 (.map none) (.pointer (some ⟨nb, 0, none⟩)) false).run Try.prog w' = .ok (.int .i64 0) w' := fun w' => look_often w' _
    go_enter Try.func52, Try.ntmps52
    go_wp2_with fail
    go_quiet (fail)
    go_wp2_with fail
    have hbd : Below w.heap.size w (w.drewN nq) := below_drewN _ w nq
    generalize hw1 : w.drewN nq = w1 at hbd ⊢
    clear hw1
    have HS1 := Lib.hid (HS.out.below hbd)
    have HR1 := Lib.hid (rn_below HR.out hbd)
    have HRD := Lib.hid (rn_below HR1.out ((Below.refl _ w1).drew))
    have e1 : w1.cell? ⟨R, 1, none⟩ = some (.slice sA ns sc) := by rw [Lib.cell_of_heap HR1.out.blk]; rfl
    have HBD := Lib.hid (show ∃ cs, w1.drew.heap[b]? = some (.cells cs 68 (0, 0)) by obtain ⟨cs, hc⟩ := HSB.out; exact ⟨cs, (hbd.block b (lt_of_heap hc)).trans hc⟩)
    have HSD := Lib.hid (HS1.out.below ((Below.refl _ w1).drew))
    have HP0 := Lib.hid (fun (w' : World) (g' : Gh) (h : SpAt w' r g' root) (hb : g'.σ [] = some b) => part0_any r g' root b [] x w' h hb HE.out)
    have HP1 := Lib.hid (fun (w' : World) (g' : Gh) (h : SpAt w' r g' root) (hb : g'.σ [] = some b) => part1_any r g' root b [] y w' h hb HE1.out)
    have hz1 := hbd.size
    have HBW := Lib.hid hbd
    clear hbd c0 c1' d0 d5 r1 r4 hlook
    go_region_law (first
      | (go_simp; go_at_call 65; (with_reducible refine (HP1.out w2 g2' s5 (s7 _ _ HB.out)).mono ?_); rintro e w4 ⟨b1, g4', rfl, t1, t2, t3, t4, t5, t6, t7⟩; have hr4 := rn_keep hr2 t6 (sp_ty s5 (s7 _ _ HB.out)); have ho4 : w4.ownsRow base 64 1 (.slice sA ns sc) ns (Bl.map ptr) := own_len hr4.bo HNS.out.symm; have e4 : w4.cell? ⟨R, 1, none⟩ = some (.slice sA ns sc) := rn_c1 hr4; have hz4 : w2.heap.size ≤ w4.heap.size := t6.size; have e4a : ∀ o : Obj, (w4.alloc o).cell? ⟨R, 1, none⟩ = some (.slice sA ns sc) := fun o => rn_c1 (rn_below hr4 ((Below.refl _ w4).alloc (Nat.le_refl _) o)); have hfin := or_fin01 (p := []) HSD.out HB.out s1 s2 s3 s4 s5 s6 s7 t1 t2 t3 t4 t5 t6 t7)
      | (go_simp; go_at_call 65; (with_reducible refine (HP0.out w3 g3' s5 (s7 _ _ HB.out)).mono ?_); rintro e w4 ⟨b0, g4', rfl, t1, t2, t3, t4, t5, t6, t7⟩; have hr4 := rn_keep hr3 t6 (sp_ty s5 (s7 _ _ HB.out)); have ho4 : w4.ownsRow base 64 1 (.slice sA ns sc) ns (Bl.map ptr) := own_len hr4.bo HNS.out.symm; have e4 : w4.cell? ⟨R, 1, none⟩ = some (.slice sA ns sc) := rn_c1 hr4; have hz4 : w3.heap.size ≤ w4.heap.size := t6.size; have e4a : ∀ o : Obj, (w4.alloc o).cell? ⟨R, 1, none⟩ = some (.slice sA ns sc) := fun o => rn_c1 (rn_below hr4 ((Below.refl _ w4).alloc (Nat.le_refl _) o)); have hfin := or_fin10 (p := []) HSD.out HB.out s1 s2 s3 s4 s5 s6 s7 t1 t2 t3 t4 t5 t6 t7)
      | (go_simp; go_at_call 65; (with_reducible refine (HP0.out w1.drew g HSD.out HB.out).mono ?_); rintro e w2 ⟨b0, g2', rfl, s1, s2, s3, s4, s5, s6, s7⟩; have hr2 := rn_keep HRD.out s6 HBD.out; have e2 : w2.cell? ⟨R, 1, none⟩ = some (.slice sA ns sc) := rn_c1 hr2; have hz2 : w1.heap.size ≤ w2.heap.size := s6.size)
      | (go_simp; go_at_call 65; (with_reducible refine (HP1.out w1.drew g HSD.out HB.out).mono ?_); rintro e w3 ⟨b1, g3', rfl, s1, s2, s3, s4, s5, s6, s7⟩; have hr3 := rn_keep HRD.out s6 HBD.out; have e3 : w3.cell? ⟨R, 1, none⟩ = some (.slice sA ns sc) := rn_c1 hr3; have hz3 : w1.heap.size ≤ w3.heap.size := s6.size)
      | (refine step_append_lies _ (by rfl) _ _ _ (by rfl) base 64 i0 _ 1 8 Try.underlying66 HI.out HZ0.out HZ1.out HZ2.out rfl (by omega) (.slice sA ns sc) ns (Bl.map ptr) (by rfl) (ho4.alloc _) ⟨w4.heap.size, 0, none⟩ 2 2 [ptr b0, ptr b1] (by rfl) (by rfl) (World.news_of_block (cs := #[ptr b0, ptr b1]) (t := 64) (fr := (0, 0)) (heap_alloc_new w4 _)) (by simp [Value.oneCell']) (by omega) (by unfold maxLen; omega) (by omega) (by simp; omega) (w4.heap.size + 1) (by simp) ?_; intro gg cap6 w6 hown6 hgrow6 hat6 hlt6; have hg6 := grown_kb hgrow6; have e6 := rn_far1 hr4 hg6; have ef6 := rn_ffar hr4.bo hr4 hg6 1))
    all_goals
      have HX := Lib.hid (And.intro hown6 (And.intro hg6 (And.intro hat6 (And.intro hr4 (And.intro t5 hfin)))))
      clear hown6 hgrow6 hat6 hlt6 hg6 e6 ef6 ho4 e4 e4a
      try go_wp2
      go_end0
      obtain ⟨hown6, hg6, hat6, hr4, t5, hfin⟩ := HX.out
      obtain ⟨k1, k2, k3, k4, k5⟩ := hfin
      have hll : (Bl ++ [b0, b1]).length = ns + 2 := by rw [List.length_append, HNS.out]; rfl
      obtain ⟨a1, a2, a3⟩ := rn_push1 (new := [b0, b1]) hr4 hg6 (by rw [hll, List.map_append]; exact hown6) (hat6.elim (fun h => .inl (by rw [h]; rfl)) (fun h => .inr ⟨gg, rfl, by omega⟩)) hbR (by omega)
      have hb04 : Fr base w w4 := (Fr.of_below hbase HBW.out).trans (Fr.of_part (Kb.from_drew k5) (by omega) hbb HBD.out)
      exact ⟨rfl, _, b0, b1, g4', a1, t5.kr a2 ⟨_, hr4.blk⟩, hb04.trans a3, k1, k2, k3, k4⟩
  · obtain ⟨bu, hbu⟩ := HPAR.out _ _ _ HB.out
    have c1' : w.cell? ⟨b, 1, none⟩ = some (.pointer (some ⟨bu, 0, none⟩)) := by rw [c1]; show some (ptrO (g.σ p)) = _; rw [hbu]; rfl
    clear c1
    have hlook : ∀ w' : World, (Instr.lookup 70 (.map none) (.pointer (some ⟨nb, 0, none⟩)) false).run Try.prog w' = .ok (.int .i64 0) w' := fun w' => look_often w' _
    go_enter Try.func52, Try.ntmps52
    go_wp2_with fail
    go_quiet (fail)
    go_wp2_with fail
    have hbd : Below w.heap.size w (w.drewN nq) := below_drewN _ w nq
    generalize hw1 : w.drewN nq = w1 at hbd ⊢
    clear hw1
    have HS1 := Lib.hid (HS.out.below hbd)
    have HR1 := Lib.hid (rn_below HR.out hbd)
    have HRD := Lib.hid (rn_below HR1.out ((Below.refl _ w1).drew))
    have e1 : w1.cell? ⟨R, 1, none⟩ = some (.slice sA ns sc) := by rw [Lib.cell_of_heap HR1.out.blk]; rfl
    have HBD := Lib.hid (show ∃ cs, w1.drew.heap[b]? = some (.cells cs 68 (0, 0)) by obtain ⟨cs, hc⟩ := HSB.out; exact ⟨cs, (hbd.block b (lt_of_heap hc)).trans hc⟩)
    have HSD := Lib.hid (HS1.out.below ((Below.refl _ w1).drew))
    have HP0 := Lib.hid (fun (w' : World) (g' : Gh) (h : SpAt w' r g' root) (hb : g'.σ (k :: p) = some b) => part0_any r g' root b (k :: p) x w' h hb HE.out)
    have HP1 := Lib.hid (fun (w' : World) (g' : Gh) (h : SpAt w' r g' root) (hb : g'.σ (k :: p) = some b) => part1_any r g' root b (k :: p) y w' h hb HE1.out)
    have hz1 := hbd.size
    have HBW := Lib.hid hbd
    clear hbd c0 c1' d0 d5 r1 r4 hlook
    go_region_law (first
      | (go_simp; go_at_call 65; (with_reducible refine (HP1.out w2 g2' s5 (s7 _ _ HB.out)).mono ?_); rintro e w4 ⟨b1, g4', rfl, t1, t2, t3, t4, t5, t6, t7⟩; have hr4 := rn_keep hr2 t6 (sp_ty s5 (s7 _ _ HB.out)); have ho4 : w4.ownsRow base 64 1 (.slice sA ns sc) ns (Bl.map ptr) := own_len hr4.bo HNS.out.symm; have e4 : w4.cell? ⟨R, 1, none⟩ = some (.slice sA ns sc) := rn_c1 hr4; have hz4 : w2.heap.size ≤ w4.heap.size := t6.size; have e4a : ∀ o : Obj, (w4.alloc o).cell? ⟨R, 1, none⟩ = some (.slice sA ns sc) := fun o => rn_c1 (rn_below hr4 ((Below.refl _ w4).alloc (Nat.le_refl _) o)); have hfin := or_fin01 (p := (k :: p)) HSD.out HB.out s1 s2 s3 s4 s5 s6 s7 t1 t2 t3 t4 t5 t6 t7)
      | (go_simp; go_at_call 65; (with_reducible refine (HP0.out w3 g3' s5 (s7 _ _ HB.out)).mono ?_); rintro e w4 ⟨b0, g4', rfl, t1, t2, t3, t4, t5, t6, t7⟩; have hr4 := rn_keep hr3 t6 (sp_ty s5 (s7 _ _ HB.out)); have ho4 : w4.ownsRow base 64 1 (.slice sA ns sc) ns (Bl.map ptr) := own_len hr4.bo HNS.out.symm; have e4 : w4.cell? ⟨R, 1, none⟩ = some (.slice sA ns sc) := rn_c1 hr4; have hz4 : w3.heap.size ≤ w4.heap.size := t6.size; have e4a : ∀ o : Obj, (w4.alloc o).cell? ⟨R, 1, none⟩ = some (.slice sA ns sc) := fun o => rn_c1 (rn_below hr4 ((Below.refl _ w4).alloc (Nat.le_refl _) o)); have hfin := or_fin10 (p := (k :: p)) HSD.out HB.out s1 s2 s3 s4 s5 s6 s7 t1 t2 t3 t4 t5 t6 t7)
      | (go_simp; go_at_call 65; (with_reducible refine (HP0.out w1.drew g HSD.out HB.out).mono ?_); rintro e w2 ⟨b0, g2', rfl, s1, s2, s3, s4, s5, s6, s7⟩; have hr2 := rn_keep HRD.out s6 HBD.out; have e2 : w2.cell? ⟨R, 1, none⟩ = some (.slice sA ns sc) := rn_c1 hr2; have hz2 : w1.heap.size ≤ w2.heap.size := s6.size)
      | (go_simp; go_at_call 65; (with_reducible refine (HP1.out w1.drew g HSD.out HB.out).mono ?_); rintro e w3 ⟨b1, g3', rfl, s1, s2, s3, s4, s5, s6, s7⟩; have hr3 := rn_keep HRD.out s6 HBD.out; have e3 : w3.cell? ⟨R, 1, none⟩ = some (.slice sA ns sc) := rn_c1 hr3; have hz3 : w1.heap.size ≤ w3.heap.size := s6.size)
      | (refine step_append_lies _ (by rfl) _ _ _ (by rfl) base 64 i0 _ 1 8 Try.underlying66 HI.out HZ0.out HZ1.out HZ2.out rfl (by omega) (.slice sA ns sc) ns (Bl.map ptr) (by rfl) (ho4.alloc _) ⟨w4.heap.size, 0, none⟩ 2 2 [ptr b0, ptr b1] (by rfl) (by rfl) (World.news_of_block (cs := #[ptr b0, ptr b1]) (t := 64) (fr := (0, 0)) (heap_alloc_new w4 _)) (by simp [Value.oneCell']) (by omega) (by unfold maxLen; omega) (by omega) (by simp; omega) (w4.heap.size + 1) (by simp) ?_; intro gg cap6 w6 hown6 hgrow6 hat6 hlt6; have hg6 := grown_kb hgrow6; have e6 := rn_far1 hr4 hg6; have ef6 := rn_ffar hr4.bo hr4 hg6 1))
    all_goals
      have HX := Lib.hid (And.intro hown6 (And.intro hg6 (And.intro hat6 (And.intro hr4 (And.intro t5 hfin)))))
      clear hown6 hgrow6 hat6 hlt6 hg6 e6 ef6 ho4 e4 e4a
      try go_wp2
      go_end0
      obtain ⟨hown6, hg6, hat6, hr4, t5, hfin⟩ := HX.out
      obtain ⟨k1, k2, k3, k4, k5⟩ := hfin
      have hll : (Bl ++ [b0, b1]).length = ns + 2 := by rw [List.length_append, HNS.out]; rfl
      obtain ⟨a1, a2, a3⟩ := rn_push1 (new := [b0, b1]) hr4 hg6 (by rw [hll, List.map_append]; exact hown6) (hat6.elim (fun h => .inl (by rw [h]; rfl)) (fun h => .inr ⟨gg, rfl, by omega⟩)) hbR (by omega)
      have hb04 : Fr base w w4 := (Fr.of_below hbase HBW.out).trans (Fr.of_part (Kb.from_drew k5) (by omega) hbb HBD.out)
      exact ⟨rfl, _, b0, b1, g4', a1, t5.kr a2 ⟨_, hr4.blk⟩, hb04.trans a3, k1, k2, k3, k4⟩
end Go.Proofs.Ytejdfpieblkapaa
