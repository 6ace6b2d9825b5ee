/- What pop does; the end of a cat's first part. -/
import Derived.Test.YtejdfpieblkapaaM6
import Derived.Laws.AppendOwnNone
namespace Go.Proofs.Ytejdfpieblkapaa
open Go.RowKit

theorem pop_none (R f : Nat) (A : Option Addr) (c : Nat) (w : World) (hc : w.cell? ⟨R, f, none⟩ = some (.slice A 0 c)) :
    Calls Try.prog 50 #[.pointer (some ⟨R, f, none⟩)] w fun e w' => e = .returned (.pointer none) ∧ w' = w := by
  go_enter Try.func50, Try.ntmps50
  go_wp2
  go_ret
  exact ⟨rfl, rfl⟩

set_option maxRecDepth 100000 in
set_option maxHeartbeats 1000000 in
theorem pop_some (R f g n n1 c x : Nat) (w : World) (hn : n1 = n + 1) (hc : w.cell? ⟨R, f, none⟩ = some (.slice (some ⟨g, 0, none⟩) n1 c)) (hf : w.frozen? ⟨R, f, none⟩ = false) (hl : n1 ≤ c) (hcm : c ≤ 9223372036854775807) (hcg : w.cell? ⟨g, n, none⟩ = some (.pointer (some ⟨x, 0, none⟩))) :
    Calls Try.prog 50 #[.pointer (some ⟨R, f, none⟩)] w fun e w' => e = .returned (ptr x) ∧ w' = w.setCell ⟨R, f, none⟩ (.slice (some ⟨g, 0, none⟩) n c) := by
  have p1 : IntKind.i64.wrap ((n1 : Int) - 1) = (n : Int) := by rw [IntWalk.i64_in _ (by omega)]; omega
  have p2 : (n : Int) < (n1 : Int) := by omega
  have p3 : (0 : Int) ≤ (n : Int) := by omega
  have p4 : (n : Int) ≤ (c : Int) := by omega
  have q1 : decide ((n : Int) < 0) = false := decide_eq_false (by omega)
  clear hn
  go_enter Try.func50, Try.ntmps50
  go_wp2
  go_ret
  exact ⟨rfl, rfl⟩
set_option maxRecDepth 100000 in
set_option maxHeartbeats 2000000 in
theorem end_cat0 (w : World) (r : Rx) (g : Gh) (root base R τ b bu : Nat) (p : Path) (x y : Rx) (bv ev sv : Value) (Bl El Sl : List Nat) (hs : SpAt w r g root) (hr : RnAt w base R τ bv ev sv Bl El Sl) (hb : g.σ (0 :: p) = some b) (hbu : g.σ p = some bu) (he : r.at p = some (.cat x y)) (hbase : base ≤ w.heap.size) (hbR : base ≤ R) (hbb : base ≤ bu) (hl : Bl.length ≤ 1048576) :
    Calls Try.prog 51 #[ptr R, ptr b] w fun e w' => e = .returned (.tuple #[]) ∧ ∃ v' b' g', RnAt w' base R τ v' ev sv (Bl ++ [b']) El Sl ∧ SpAt w' r g' root ∧ Fr base w w' ∧ Gg g g' ∧ g'.σ (1 :: p) = some b' ∧ (∀ q, q ≠ 1 :: p → g'.σ q = g.σ q) := by
  obtain ⟨e0, nb0, _, _, h30⟩ := hs.at' _ b hb
  obtain ⟨e, nb, h1, h2, h3⟩ := hs.at' p bu hbu
  rw [he] at h1
  injection h1 with h1
  subst h1
  obtain ⟨A, n, hnb, hn⟩ := h2.blk
  obtain ⟨sA, sc, rfl, hs1, hs2⟩ := own_form hr.bo
  obtain ⟨ns, hns⟩ : ∃ ns, ns = Bl.length := ⟨_, rfl⟩
  have hr' : RnAt w base R τ (.slice sA ns sc) ev sv Bl El Sl := by rw [hns]; exact hr
  have hrb := hr'.blk
  have c1 : w.cell? ⟨b, 1, none⟩ = some (.pointer (some ⟨bu, 0, none⟩)) := by unfold SpB at h30; rw [Lib.cell_of_heap h30]; show some (ptrO (g.σ p)) = _; rw [hbu]; rfl
  have u0 : w.cell? ⟨bu, 0, none⟩ = some (.pointer (some ⟨nb, 0, none⟩)) := by unfold SpB at h3; rw [Lib.cell_of_heap h3]; rfl
  have u2 : w.cell? ⟨bu, 2, none⟩ = some (.pointer (some ⟨b, 0, none⟩)) := by unfold SpB at h3; rw [Lib.cell_of_heap h3]; show some (ptrO (g.σ (0 :: p))) = _; rw [hb]; rfl
  have d0 : w.cell? ⟨nb, 0, none⟩ = some (.int .i64 2) := by unfold NdB at hnb; rw [Lib.cell_of_heap hnb]; rfl
  have r1 : w.cell? ⟨R, 1, none⟩ = some (.slice sA ns sc) := by rw [Lib.cell_of_heap hrb]; rfl
  obtain ⟨j, hj, hj7⟩ := Option.map_eq_some_iff.1 Try.info68
  have heq : (binOp .eql 64 (ptr b) (.pointer (some ⟨b, 0, none⟩))).run Try.prog w = .ok (.bool true) w := run_eql_ptr_same w _ Try.underlying64 hj
  clear hj hj7
  obtain ⟨i0, hi0, hz0, hz1, hz2⟩ := info_parts Try.info64
  have HI := Lib.hid hi0; have HZ0 := Lib.hid hz0; have HZ1 := Lib.hid hz1; have HZ2 := Lib.hid hz2
  clear hi0 hz0 hz1 hz2
  rw [← hns] at hl hs1
  have HR := Lib.hid hr'
  have HNS := Lib.hid hns
  have HRD := Lib.hid (rn_below hr' ((Below.refl _ w).drew))
  have HBD := Lib.hid (show ∃ cs, w.drew.heap[bu]? = some (.cells cs 68 (0, 0)) from ⟨_, h3⟩)
  have HP := Lib.hid (part1_any r g root bu p y w.drew (hs.below ((Below.refl _ w).drew)) hbu (by rw [Rx.at_cons, he]; rfl))
  clear hs hr hr' h2 h3 h30 hnb hn hrb hns hb he hbu
  go_enter Try.func51, Try.ntmps51
  go_wp2_with fail
  go_region_law (first | (go_simp; go_at_call 65; (with_reducible refine HP.out.mono ?_); rintro e w2 ⟨b', g', rfl, g1, g2, g3, g4, g5, g6, g7⟩; have hr2 := rn_keep HRD.out g6 HBD.out; have ho2 : w2.ownsRow base 64 1 (.slice sA ns sc) ns (Bl.map ptr) := own_len hr2.bo HNS.out.symm; have e2 : w2.cell? ⟨R, 1, none⟩ = some (.slice sA ns sc) := rn_c1 hr2; have hz2 : w.heap.size ≤ w2.heap.size := g6.size; have e2a : ∀ o : Obj, (w2.alloc o).cell? ⟨R, 1, none⟩ = some (.slice sA ns sc) := fun o => rn_c1 (rn_below hr2 ((Below.refl _ w2).alloc (Nat.le_refl _) o))) | (refine step_append_lies _ (by rfl) _ _ _ (by rfl) base 64 i0 _ 1 8 Try.underlying66 HI.out HZ0.out HZ1.out HZ2.out rfl (by omega) (.slice sA ns sc) ns (Bl.map ptr) (by rfl) (ho2.alloc _) ⟨w2.heap.size, 0, none⟩ 1 1 [ptr b'] (by rfl) (by rfl) (World.news_of_block (cs := #[ptr b']) (t := 64) (fr := (0, 0)) (heap_alloc_new w2 _)) (by simp [Value.oneCell']) (by omega) (by unfold maxLen; omega) (by omega) (by simp; omega) (w2.heap.size + 1) (by simp) ?_; intro gg cap6 w6 hown6 hgrow6 hat6 hlt6; have hg6 := grown_kb hgrow6; have e6 := rn_far1 hr2 hg6; have ef6 := rn_ffar hr2.bo hr2 hg6 1))
  all_goals
    have HX := Lib.hid (And.intro hown6 (And.intro hg6 (And.intro hat6 (And.intro hr2 (And.intro g5 (And.intro g6 (And.intro g1 (And.intro g2 (And.intro g3 (And.intro g4 g7))))))))))
    clear hown6 hgrow6 hat6 hlt6 hg6 e6 ef6 hr2 ho2 e2 e2a g1 g2 g3 g4 g5 g6 g7
    try go_wp2
    go_end0
    obtain ⟨hown6, hg6, hat6, hr2, g5, g6, g1, g2, g3, g4, g7⟩ := HX.out
    have hll : (Bl ++ [b']).length = ns + 1 := by rw [List.length_append, HNS.out]; rfl
    obtain ⟨a1, a2, a3⟩ := rn_push1 (new := [b']) hr2 hg6 (by rw [hll, List.map_append]; exact hown6) (hat6.elim (fun h => .inl (by rw [h]; rfl)) (fun h => .inr ⟨gg, rfl, by omega⟩)) hbR (by omega)
    have hb02 : Fr base w w2 := Fr.of_part (Kb.from_drew g6) (by omega) hbb HBD.out
    exact ⟨rfl, _, b', g', a1, g5.kr a2 ⟨_, hr2.blk⟩, hb02.trans a3, ⟨g2, g3, g7⟩, g1, g4⟩
end Go.Proofs.Ytejdfpieblkapaa

/- What begin does to an or. -/
namespace Go.Proofs.Ytejdfpieblkapaa
open Go.RowKit

theorem sp_ty {w : World} {r : Rx} {g : Gh} {root b : Nat} {p : Path} (h : SpAt w r g root) (hb : g.σ p = some b) : ∃ cs, w.heap[b]? = some (.cells cs 68 (0, 0)) := by
  obtain ⟨_, _, _, _, h3⟩ := h.at' p b hb
  exact ⟨_, h3⟩

def OrFin (g g' : Gh) (p : Path) (b b0 b1 : Nat) (w w' : World) : Prop :=
  Gg g g' ∧ g'.σ (0 :: p) = some b0 ∧ g'.σ (1 :: p) = some b1 ∧ (∀ q, q ≠ 0 :: p → q ≠ 1 :: p → g'.σ q = g.σ q) ∧ Kb (fun i => i = b) w w'

theorem or_fin01 {w w2 w4 : World} {r : Rx} {g g2 g4 : Gh} {root b b0 b1 : Nat} {p : Path} (_h : SpAt w r g root) (_hb : g.σ p = some b) (s1 : g2.σ (0 :: p) = some b0) (s2 : g2.bg = g.bg) (s3 : g2.en = g.en) (s4 : ∀ q, q ≠ 0 :: p → g2.σ q = g.σ q) (_s5 : SpAt w2 r g2 root) (s6 : Kb (fun i => i = b) w w2) (s7 : ∀ q c, g.σ q = some c → g2.σ q = some c)
    (t1 : g4.σ (1 :: p) = some b1) (t2 : g4.bg = g2.bg) (t3 : g4.en = g2.en) (t4 : ∀ q, q ≠ 1 :: p → g4.σ q = g2.σ q) (_t5 : SpAt w4 r g4 root) (t6 : Kb (fun i => i = b) w2 w4) (t7 : ∀ q c, g2.σ q = some c → g4.σ q = some c) : OrFin g g4 p b b0 b1 w w4 :=
  ⟨⟨t2.trans s2, t3.trans s3, fun _q _c h => t7 _ _ (s7 _ _ h)⟩, t7 _ _ s1, t1, fun q h0 h1 => (t4 q h1).trans (s4 q h0), s6.trans t6 (fun _ _ h => h)⟩
theorem or_fin10 {w w2 w4 : World} {r : Rx} {g g2 g4 : Gh} {root b b0 b1 : Nat} {p : Path} (_h : SpAt w r g root) (_hb : g.σ p = some b) (s1 : g2.σ (1 :: p) = some b1) (s2 : g2.bg = g.bg) (s3 : g2.en = g.en) (s4 : ∀ q, q ≠ 1 :: p → g2.σ q = g.σ q) (_s5 : SpAt w2 r g2 root) (s6 : Kb (fun i => i = b) w w2) (s7 : ∀ q c, g.σ q = some c → g2.σ q = some c)
    (t1 : g4.σ (0 :: p) = some b0) (t2 : g4.bg = g2.bg) (t3 : g4.en = g2.en) (t4 : ∀ q, q ≠ 0 :: p → g4.σ q = g2.σ q) (_t5 : SpAt w4 r g4 root) (t6 : Kb (fun i => i = b) w2 w4) (t7 : ∀ q c, g2.σ q = some c → g4.σ q = some c) : OrFin g g4 p b b0 b1 w w4 :=
  ⟨⟨t2.trans s2, t3.trans s3, fun _q _c h => t7 _ _ (s7 _ _ h)⟩, t1, t7 _ _ s1, fun q h0 h1 => (t4 q h0).trans (s4 q h1), s6.trans t6 (fun _ _ h => h)⟩

set_option maxRecDepth 100000 in
set_option maxHeartbeats 2000000 in
theorem begin_or (w : World) (r : Rx) (g : Gh) (root base R τ b : Nat) (p : Path) (x y : Rx) (bv ev sv : Value) (Bl El Sl : List Nat) (hs : SpAt w r g root) (hr : RnAt w base R τ bv ev sv Bl El Sl) (hb : g.σ p = some b) (he : r.at p = some (.or x y)) (hbase : base ≤ w.heap.size) (hbR : base ≤ R) (hbb : base ≤ b) (hl : Bl.length ≤ 1048576) :
    Calls Try.prog 52 #[ptr R, ptr b] w fun e w' => e = .returned (.tuple #[]) ∧ ∃ v' b0 b1 g', RnAt w' base R τ v' ev sv (Bl ++ [b0, b1]) El Sl ∧ SpAt w' r g' root ∧ Fr base w w' ∧ Gg g g' ∧ g'.σ (0 :: p) = some b0 ∧ g'.σ (1 :: p) = some b1 ∧ (∀ q, q ≠ 0 :: p → q ≠ 1 :: p → g'.σ q = g.σ q) := by
  obtain ⟨e, nb, h1, h2, h3⟩ := hs.at' p b hb
  rw [he] at h1
  injection h1 with h1
  subst h1
  obtain ⟨A, n, hnb, hn⟩ := h2.blk
  obtain ⟨sA, sc, rfl, hs1, hs2⟩ := own_form hr.bo
  obtain ⟨ns, hns⟩ : ∃ ns, ns = Bl.length := ⟨_, rfl⟩
  have hr' : RnAt w base R τ (.slice sA ns sc) ev sv Bl El Sl := by rw [hns]; exact hr
  have hrb := hr'.blk
  have c0 : w.cell? ⟨b, 0, none⟩ = some (.pointer (some ⟨nb, 0, none⟩)) := by unfold SpB at h3; rw [Lib.cell_of_heap h3]; rfl
  have c1 : w.cell? ⟨b, 1, none⟩ = some (g.up p) := by unfold SpB at h3; rw [Lib.cell_of_heap h3]; rfl
  have d0 : w.cell? ⟨nb, 0, none⟩ = some (.int .i64 3) := by unfold NdB at hnb; rw [Lib.cell_of_heap hnb]; rfl
  have d5 : w.cell? ⟨nb, 5, none⟩ = some (.slice A 2 2) := by unfold NdB at hnb; rw [Lib.cell_of_heap hnb, hn]; rfl
  have r1 : w.cell? ⟨R, 1, none⟩ = some (.slice sA ns sc) := by rw [Lib.cell_of_heap hrb]; rfl
  have r4 : w.cell? ⟨R, 4, none⟩ = some (.map none) := by rw [Lib.cell_of_heap hrb]; rfl
  obtain ⟨i0, hi0, hz0, hz1, hz2⟩ := info_parts Try.info64
  have HI := Lib.hid hi0; have HZ0 := Lib.hid hz0; have HZ1 := Lib.hid hz1; have HZ2 := Lib.hid hz2
  clear hi0 hz0 hz1 hz2
  rw [← hns] at hl hs1
  have HS := Lib.hid hs; have HR := Lib.hid hr'
  have HNS := Lib.hid hns
  have hRl := lt_of_heap hrb
  have HPAR := Lib.hid hs.par
  have HB := Lib.hid hb
  have HSB := Lib.hid (show ∃ cs, w.heap[b]? = some (.cells cs 68 (0, 0)) from ⟨_, h3⟩)
  have HE := Lib.hid (show r.at (0 :: p) = some x by rw [Rx.at_cons, he]; rfl)
  have HE1 := Lib.hid (show r.at (1 :: p) = some y by rw [Rx.at_cons, he]; rfl)
  clear hs hr hr' h2 h3 hnb hn hrb hns hb he
  rcases p with _ | ⟨k, p⟩
  · have c1' : w.cell? ⟨b, 1, none⟩ = some (.pointer none) := c1
    clear c1
    have hlook : ∀ w' : World, (Instr.lookup 70 (.map none) (.pointer (some ⟨nb, 0, none⟩)) false).run Try.prog w' = .ok (.int .i64 0) w' := fun w' => look_often w' _
    go_enter Try.func52, Try.ntmps52
    go_wp2_with fail
    go_quiet (fail)
    go_wp2_with fail
    have hbd : Below w.heap.size w (w.drewN nq) := below_drewN _ w nq
    generalize hw1 : w.drewN nq = w1 at hbd ⊢
    clear hw1
    have HS1 := Lib.hid (HS.out.below hbd)
    have HR1 := Lib.hid (rn_below HR.out hbd)
    have HRD := Lib.hid (rn_below HR1.out ((Below.refl _ w1).drew))
    have e1 : w1.cell? ⟨R, 1, none⟩ = some (.slice sA ns sc) := by rw [Lib.cell_of_heap HR1.out.blk]; rfl
    have HBD := Lib.hid (show ∃ cs, w1.drew.heap[b]? = some (.cells cs 68 (0, 0)) by obtain ⟨cs, hc⟩ := HSB.out; exact ⟨cs, (hbd.block b (lt_of_heap hc)).trans hc⟩)
    have HSD := Lib.hid (HS1.out.below ((Below.refl _ w1).drew))
    have HP0 := Lib.hid (fun (w' : World) (g' : Gh) (h : SpAt w' r g' root) (hb : g'.σ [] = some b) => part0_any r g' root b [] x w' h hb HE.out)
    have HP1 := Lib.hid (fun (w' : World) (g' : Gh) (h : SpAt w' r g' root) (hb : g'.σ [] = some b) => part1_any r g' root b [] y w' h hb HE1.out)
    have hz1 := hbd.size
    have HBW := Lib.hid hbd
    clear hbd c0 c1' d0 d5 r1 r4 hlook
    go_region_law (first
      | (go_simp; go_at_call 65; (with_reducible refine (HP1.out w2 g2' s5 (s7 _ _ HB.out)).mono ?_); rintro e w4 ⟨b1, g4', rfl, t1, t2, t3, t4, t5, t6, t7⟩; have hr4 := rn_keep hr2 t6 (sp_ty s5 (s7 _ _ HB.out)); have ho4 : w4.ownsRow base 64 1 (.slice sA ns sc) ns (Bl.map ptr) := own_len hr4.bo HNS.out.symm; have e4 : w4.cell? ⟨R, 1, none⟩ = some (.slice sA ns sc) := rn_c1 hr4; have hz4 : w2.heap.size ≤ w4.heap.size := t6.size; have e4a : ∀ o : Obj, (w4.alloc o).cell? ⟨R, 1, none⟩ = some (.slice sA ns sc) := fun o => rn_c1 (rn_below hr4 ((Below.refl _ w4).alloc (Nat.le_refl _) o)); have hfin := or_fin01 (p := []) HSD.out HB.out s1 s2 s3 s4 s5 s6 s7 t1 t2 t3 t4 t5 t6 t7)
      | (go_simp; go_at_call 65; (with_reducible refine (HP0.out w3 g3' s5 (s7 _ _ HB.out)).mono ?_); rintro e w4 ⟨b0, g4', rfl, t1, t2, t3, t4, t5, t6, t7⟩; have hr4 := rn_keep hr3 t6 (sp_ty s5 (s7 _ _ HB.out)); have ho4 : w4.ownsRow base 64 1 (.slice sA ns sc) ns (Bl.map ptr) := own_len hr4.bo HNS.out.symm; have e4 : w4.cell? ⟨R, 1, none⟩ = some (.slice sA ns sc) := rn_c1 hr4; have hz4 : w3.heap.size ≤ w4.heap.size := t6.size; have e4a : ∀ o : Obj, (w4.alloc o).cell? ⟨R, 1, none⟩ = some (.slice sA ns sc) := fun o => rn_c1 (rn_below hr4 ((Below.refl _ w4).alloc (Nat.le_refl _) o)); have hfin := or_fin10 (p := []) HSD.out HB.out s1 s2 s3 s4 s5 s6 s7 t1 t2 t3 t4 t5 t6 t7)
      | (go_simp; go_at_call 65; (with_reducible refine (HP0.out w1.drew g HSD.out HB.out).mono ?_); rintro e w2 ⟨b0, g2', rfl, s1, s2, s3, s4, s5, s6, s7⟩; have hr2 := rn_keep HRD.out s6 HBD.out; have e2 : w2.cell? ⟨R, 1, none⟩ = some (.slice sA ns sc) := rn_c1 hr2; have hz2 : w1.heap.size ≤ w2.heap.size := s6.size)
      | (go_simp; go_at_call 65; (with_reducible refine (HP1.out w1.drew g HSD.out HB.out).mono ?_); rintro e w3 ⟨b1, g3', rfl, s1, s2, s3, s4, s5, s6, s7⟩; have hr3 := rn_keep HRD.out s6 HBD.out; have e3 : w3.cell? ⟨R, 1, none⟩ = some (.slice sA ns sc) := rn_c1 hr3; have hz3 : w1.heap.size ≤ w3.heap.size := s6.size)
      | (refine step_append_lies _ (by rfl) _ _ _ (by rfl) base 64 i0 _ 1 8 Try.underlying66 HI.out HZ0.out HZ1.out HZ2.out rfl (by omega) (.slice sA ns sc) ns (Bl.map ptr) (by rfl) (ho4.alloc _) ⟨w4.heap.size, 0, none⟩ 2 2 [ptr b0, ptr b1] (by rfl) (by rfl) (World.news_of_block (cs := #[ptr b0, ptr b1]) (t := 64) (fr := (0, 0)) (heap_alloc_new w4 _)) (by simp [Value.oneCell']) (by omega) (by unfold maxLen; omega) (by omega) (by simp; omega) (w4.heap.size + 1) (by simp) ?_; intro gg cap6 w6 hown6 hgrow6 hat6 hlt6; have hg6 := grown_kb hgrow6; have e6 := rn_far1 hr4 hg6; have ef6 := rn_ffar hr4.bo hr4 hg6 1))
    all_goals
      have HX := Lib.hid (And.intro hown6 (And.intro hg6 (And.intro hat6 (And.intro hr4 (And.intro t5 hfin)))))
      clear hown6 hgrow6 hat6 hlt6 hg6 e6 ef6 ho4 e4 e4a
      try go_wp2
      go_end0
      obtain ⟨hown6, hg6, hat6, hr4, t5, hfin⟩ := HX.out
      obtain ⟨k1, k2, k3, k4, k5⟩ := hfin
      have hll : (Bl ++ [b0, b1]).length = ns + 2 := by rw [List.length_append, HNS.out]; rfl
      obtain ⟨a1, a2, a3⟩ := rn_push1 (new := [b0, b1]) hr4 hg6 (by rw [hll, List.map_append]; exact hown6) (hat6.elim (fun h => .inl (by rw [h]; rfl)) (fun h => .inr ⟨gg, rfl, by omega⟩)) hbR (by omega)
      have hb04 : Fr base w w4 := (Fr.of_below hbase HBW.out).trans (Fr.of_part (Kb.from_drew k5) (by omega) hbb HBD.out)
      exact ⟨rfl, _, b0, b1, g4', a1, t5.kr a2 ⟨_, hr4.blk⟩, hb04.trans a3, k1, k2, k3, k4⟩
  · obtain ⟨bu, hbu⟩ := HPAR.out _ _ _ HB.out
    have c1' : w.cell? ⟨b, 1, none⟩ = some (.pointer (some ⟨bu, 0, none⟩)) := by rw [c1]; show some (ptrO (g.σ p)) = _; rw [hbu]; rfl
    clear c1
    have hlook : ∀ w' : World, (Instr.lookup 70 (.map none) (.pointer (some ⟨nb, 0, none⟩)) false).run Try.prog w' = .ok (.int .i64 0) w' := fun w' => look_often w' _
    go_enter Try.func52, Try.ntmps52
    go_wp2_with fail
    go_quiet (fail)
    go_wp2_with fail
    have hbd : Below w.heap.size w (w.drewN nq) := below_drewN _ w nq
    generalize hw1 : w.drewN nq = w1 at hbd ⊢
    clear hw1
    have HS1 := Lib.hid (HS.out.below hbd)
    have HR1 := Lib.hid (rn_below HR.out hbd)
    have HRD := Lib.hid (rn_below HR1.out ((Below.refl _ w1).drew))
    have e1 : w1.cell? ⟨R, 1, none⟩ = some (.slice sA ns sc) := by rw [Lib.cell_of_heap HR1.out.blk]; rfl
    have HBD := Lib.hid (show ∃ cs, w1.drew.heap[b]? = some (.cells cs 68 (0, 0)) by obtain ⟨cs, hc⟩ := HSB.out; exact ⟨cs, (hbd.block b (lt_of_heap hc)).trans hc⟩)
    have HSD := Lib.hid (HS1.out.below ((Below.refl _ w1).drew))
    have HP0 := Lib.hid (fun (w' : World) (g' : Gh) (h : SpAt w' r g' root) (hb : g'.σ (k :: p) = some b) => part0_any r g' root b (k :: p) x w' h hb HE.out)
    have HP1 := Lib.hid (fun (w' : World) (g' : Gh) (h : SpAt w' r g' root) (hb : g'.σ (k :: p) = some b) => part1_any r g' root b (k :: p) y w' h hb HE1.out)
    have hz1 := hbd.size
    have HBW := Lib.hid hbd
    clear hbd c0 c1' d0 d5 r1 r4 hlook
    go_region_law (first
      | (go_simp; go_at_call 65; (with_reducible refine (HP1.out w2 g2' s5 (s7 _ _ HB.out)).mono ?_); rintro e w4 ⟨b1, g4', rfl, t1, t2, t3, t4, t5, t6, t7⟩; have hr4 := rn_keep hr2 t6 (sp_ty s5 (s7 _ _ HB.out)); have ho4 : w4.ownsRow base 64 1 (.slice sA ns sc) ns (Bl.map ptr) := own_len hr4.bo HNS.out.symm; have e4 : w4.cell? ⟨R, 1, none⟩ = some (.slice sA ns sc) := rn_c1 hr4; have hz4 : w2.heap.size ≤ w4.heap.size := t6.size; have e4a : ∀ o : Obj, (w4.alloc o).cell? ⟨R, 1, none⟩ = some (.slice sA ns sc) := fun o => rn_c1 (rn_below hr4 ((Below.refl _ w4).alloc (Nat.le_refl _) o)); have hfin := or_fin01 (p := (k :: p)) HSD.out HB.out s1 s2 s3 s4 s5 s6 s7 t1 t2 t3 t4 t5 t6 t7)
      | (go_simp; go_at_call 65; (with_reducible refine (HP0.out w3 g3' s5 (s7 _ _ HB.out)).mono ?_); rintro e w4 ⟨b0, g4', rfl, t1, t2, t3, t4, t5, t6, t7⟩; have hr4 := rn_keep hr3 t6 (sp_ty s5 (s7 _ _ HB.out)); have ho4 : w4.ownsRow base 64 1 (.slice sA ns sc) ns (Bl.map ptr) := own_len hr4.bo HNS.out.symm; have e4 : w4.cell? ⟨R, 1, none⟩ = some (.slice sA ns sc) := rn_c1 hr4; have hz4 : w3.heap.size ≤ w4.heap.size := t6.size; have e4a : ∀ o : Obj, (w4.alloc o).cell? ⟨R, 1, none⟩ = some (.slice sA ns sc) := fun o => rn_c1 (rn_below hr4 ((Below.refl _ w4).alloc (Nat.le_refl _) o)); have hfin := or_fin10 (p := (k :: p)) HSD.out HB.out s1 s2 s3 s4 s5 s6 s7 t1 t2 t3 t4 t5 t6 t7)
      | (go_simp; go_at_call 65; (with_reducible refine (HP0.out w1.drew g HSD.out HB.out).mono ?_); rintro e w2 ⟨b0, g2', rfl, s1, s2, s3, s4, s5, s6, s7⟩; have hr2 := rn_keep HRD.out s6 HBD.out; have e2 : w2.cell? ⟨R, 1, none⟩ = some (.slice sA ns sc) := rn_c1 hr2; have hz2 : w1.heap.size ≤ w2.heap.size := s6.size)
      | (go_simp; go_at_call 65; (with_reducible refine (HP1.out w1.drew g HSD.out HB.out).mono ?_); rintro e w3 ⟨b1, g3', rfl, s1, s2, s3, s4, s5, s6, s7⟩; have hr3 := rn_keep HRD.out s6 HBD.out; have e3 : w3.cell? ⟨R, 1, none⟩ = some (.slice sA ns sc) := rn_c1 hr3; have hz3 : w1.heap.size ≤ w3.heap.size := s6.size)
      | (refine step_append_lies _ (by rfl) _ _ _ (by rfl) base 64 i0 _ 1 8 Try.underlying66 HI.out HZ0.out HZ1.out HZ2.out rfl (by omega) (.slice sA ns sc) ns (Bl.map ptr) (by rfl) (ho4.alloc _) ⟨w4.heap.size, 0, none⟩ 2 2 [ptr b0, ptr b1] (by rfl) (by rfl) (World.news_of_block (cs := #[ptr b0, ptr b1]) (t := 64) (fr := (0, 0)) (heap_alloc_new w4 _)) (by simp [Value.oneCell']) (by omega) (by unfold maxLen; omega) (by omega) (by simp; omega) (w4.heap.size + 1) (by simp) ?_; intro gg cap6 w6 hown6 hgrow6 hat6 hlt6; have hg6 := grown_kb hgrow6; have e6 := rn_far1 hr4 hg6; have ef6 := rn_ffar hr4.bo hr4 hg6 1))
    all_goals
      have HX := Lib.hid (And.intro hown6 (And.intro hg6 (And.intro hat6 (And.intro hr4 (And.intro t5 hfin)))))
      clear hown6 hgrow6 hat6 hlt6 hg6 e6 ef6 ho4 e4 e4a
      try go_wp2
      go_end0
      obtain ⟨hown6, hg6, hat6, hr4, t5, hfin⟩ := HX.out
      obtain ⟨k1, k2, k3, k4, k5⟩ := hfin
      have hll : (Bl ++ [b0, b1]).length = ns + 2 := by rw [List.length_append, HNS.out]; rfl
      obtain ⟨a1, a2, a3⟩ := rn_push1 (new := [b0, b1]) hr4 hg6 (by rw [hll, List.map_append]; exact hown6) (hat6.elim (fun h => .inl (by rw [h]; rfl)) (fun h => .inr ⟨gg, rfl, by omega⟩)) hbR (by omega)
      have hb04 : Fr base w w4 := (Fr.of_below hbase HBW.out).trans (Fr.of_part (Kb.from_drew k5) (by omega) hbb HBD.out)
      exact ⟨rfl, _, b0, b1, g4', a1, t5.kr a2 ⟨_, hr4.blk⟩, hb04.trans a3, k1, k2, k3, k4⟩
end Go.Proofs.Ytejdfpieblkapaa

/- What end does at the root. -/
namespace Go.Proofs.Ytejdfpieblkapaa
open Go.RowKit

/-- append of a nil slice, as one step of a region that draws. -/
theorem step_append_nil {P : Program} {w : World} {ops : Array Oper} {o : Oper} {a : Act} {K : Act → World → Prop} {Q : Exit → Act → World → Prop} {E : Prop} (hgd : o.guard = none) (s x : Operand) (t : TypeId)
    (ho : o.op = .call { callee := .builtin .append, args := #[s, x], argTypes := #[t, t] })
    (base : Nat) (e : TypeId) (i : TypeInfo) (size : Nat) (ht : P.underlying t = some (.slice e)) (hi : P.info? e = some i)
    (v : Value) (n : Nat) (xs : List Value) (hs : a.eval s = v) (hown : w.ownsRow base e size v n xs) (hx : a.eval x = .slice none 0 0)
    (h : K (a.put o.dst v) w) : if Region.wanted o (yielded ops a.tmps) = true then Oper.wp P o a w K Q else E := by
  have hw : Region.wanted o (yielded ops a.tmps) = true := by simp [Region.wanted, hgd]
  rw [if_pos hw]
  have hrun := run_append_owned_none (P := P) (w := w) base t o.type e i size ht hi v n xs hown
  unfold Oper.wp
  simp [execOp, ho, resolve, invoke, builtin, hs, hx, hrun, Result.andThen]
  exact h

set_option maxRecDepth 100000 in
set_option maxHeartbeats 2000000 in
theorem end_root (w : World) (r : Rx) (g : Gh) (root base R τ : Nat) (bv ev sv : Value) (Bl El Sl : List Nat) (hs : SpAt w r g root) (hr : RnAt w base R τ bv ev sv Bl El Sl) (hbase : base ≤ w.heap.size) (hbR : base ≤ R) :
    Calls Try.prog 51 #[ptr R, ptr root] w fun e w' => e = .returned (.tuple #[]) ∧ RnAt w' base R τ bv ev sv Bl El Sl ∧ SpAt w' r g root ∧ Fr base w w' := by
  obtain ⟨e, nb, h1, h2, h3⟩ := hs.at' [] root hs.root
  obtain ⟨sA, sc, rfl, hs1, hs2⟩ := own_form hr.eo
  obtain ⟨ns, hns⟩ : ∃ ns, ns = El.length := ⟨_, rfl⟩
  have hr' : RnAt w base R τ bv (.slice sA ns sc) sv Bl El Sl := by rw [hns]; exact hr
  have hrb := hr'.blk
  have c1 : w.cell? ⟨root, 1, none⟩ = some (.pointer none) := by unfold SpB at h3; rw [Lib.cell_of_heap h3]; rfl
  have c6 : w.cell? ⟨root, 6, none⟩ = some (.slice none 0 0) := by unfold SpB at h3; rw [Lib.cell_of_heap h3]; rfl
  have r2 : w.cell? ⟨R, 2, none⟩ = some (.slice sA ns sc) := by rw [Lib.cell_of_heap hrb]; rfl
  have fr2 : w.frozen? ⟨R, 2, none⟩ = false := Lib.frozen_of_heap hrb 2
  obtain ⟨i0, hi0, hz0, hz1, hz2⟩ := info_parts Try.info64
  have HI := Lib.hid hi0
  clear hi0 hz0 hz1 hz2
  have HS := Lib.hid hs; have HR := Lib.hid hr'
  have HO := Lib.hid (show w.ownsRow base 64 1 (.slice sA ns sc) ns (El.map ptr) by rw [hns]; exact hr.eo)
  have HNS := Lib.hid hns
  rw [← hns]
  clear hs hr hr' h1 h2 h3 hrb hns
  go_enter Try.func51, Try.ntmps51
  go_wp2_with fail
  go_region_law (refine step_append_nil (by rfl) _ _ _ (by rfl) base 64 i0 1 Try.underlying66 HI.out (.slice sA ns sc) ns (El.map ptr) (by rfl) HO.out.drew (by rfl) ?_)
  all_goals
    try go_wp2
    (try simp only [Exit.inBlock, Exit.then])
    refine bodyPost_ret (results_none rfl _ _ _) rfl ?_
    have hg6 : Kb (fun i => some i = (Value.slice sA ns sc).ownBlock) w w.drew := Kb.of_below _ (Below.refl _ w).drew
    obtain ⟨a1, a2, a3⟩ := rn_push2 (new := []) HR.out hg6 (by rw [List.append_nil, ← HNS.out]; exact HO.out.drew) (.inl rfl) hbR hbase
    rw [List.append_nil] at a1
    exact ⟨rfl, a1, HS.out.kr a2 ⟨_, HR.out.blk⟩, a3⟩
end Go.Proofs.Ytejdfpieblkapaa

/- begin and end, each in one. -/
namespace Go.Proofs.Ytejdfpieblkapaa
open Go.RowKit

/-- What a begun spot begins, ends, and waits for a byte with. -/
def begB : Rx → Path → List Path
  | .cat _ _, p => [0 :: p]
  | .or _ _, p => [0 :: p, 1 :: p]
  | .star _, p => [0 :: p]
  | .set _, _ => []
  | .empty, _ => []
def begE : Rx → Path → List Path
  | .empty, p => [p]
  | .star _, p => [p]
  | .cat _ _, _ => []
  | .or _ _, _ => []
  | .set _, _ => []
def begS : Rx → Path → List Path
  | .set _, p => [p]
  | .empty, _ => []
  | .star _, _ => []
  | .cat _ _, _ => []
  | .or _ _, _ => []
/-- What an ended part number k begins and ends in the spot above it. -/
def endB : Rx → Nat → Path → List Path
  | .cat _ _, 0, p => [1 :: p]
  | .star _, _, p => [p]
  | _, _, _ => []
def endE : Rx → Nat → Path → List Path
  | .cat _ _, 0, _ => []
  | .cat _ _, _ + 1, p => [p]
  | .or _ _, _, p => [p]
  | _, _, _ => []

def On (g : Gh) (l : List Nat) (ps : List Path) : Prop := l.map some = ps.map g.σ

def StepTo (r : Rx) (g : Gh) (root base R τ : Nat) (Bl El Sl : List Nat) (B E S : List Path) (w : World) (e : Ending) (w' : World) : Prop :=
  e = .returned (.tuple #[]) ∧ ∃ bv ev sv g' NB NE NS, RnAt w' base R τ bv ev sv (Bl ++ NB) (El ++ NE) (Sl ++ NS) ∧ SpAt w' r g' root ∧ Fr base w w' ∧ Gg g g' ∧ On g' NB B ∧ On g' NE E ∧ On g' NS S

theorem Gg.refl (g : Gh) : Gg g g := ⟨rfl, rfl, fun _ _ h => h⟩

theorem begin_any (w : World) (r : Rx) (g : Gh) (root base R τ b : Nat) (p : Path) (e : Rx) (bv ev sv : Value) (Bl El Sl : List Nat) (hs : SpAt w r g root) (hr : RnAt w base R τ bv ev sv Bl El Sl) (hb : g.σ p = some b) (he : r.at p = some e) (hbase : base ≤ w.heap.size) (hbR : base ≤ R) (hroot : base ≤ root) (hlb : Bl.length ≤ 1048576) (hle : El.length ≤ 1048576) (hls : Sl.length ≤ 1048576) :
    Calls Try.prog 52 #[ptr R, ptr b] w (StepTo r g root base R τ Bl El Sl (begB e p) (begE e p) (begS e p) w) := by
  have hbb : base ≤ b := Nat.le_trans hroot (hs.low p b root hs.root hb)
  cases e with
  | set s =>
    refine (begin_set w r g root base R τ b p s bv ev sv Bl El Sl hs hr hb he hbase hbR hls).mono ?_
    rintro e w' ⟨h, v', h1, h2, h3⟩
    exact ⟨h, _, _, _, g, [], [], [b], by simpa using h1, h2, h3, Gg.refl g, rfl, rfl, by simp [On, begS, hb]⟩
  | empty =>
    refine (begin_empty w r g root base R τ b p bv ev sv Bl El Sl hs hr hb he hbase hbR hle).mono ?_
    rintro e w' ⟨h, v', h1, h2, h3⟩
    exact ⟨h, _, _, _, g, [], [b], [], by simpa using h1, h2, h3, Gg.refl g, rfl, by simp [On, begE, hb], rfl⟩
  | cat x y =>
    refine (begin_cat w r g root base R τ b p x y bv ev sv Bl El Sl hs hr hb he hbase hbR hbb hlb).mono ?_
    rintro e w' ⟨h, v', b', g', h1, h2, h3, h4, h5, _⟩
    exact ⟨h, _, _, _, g', [b'], [], [], by simpa using h1, h2, h3, h4, by simp [On, begB, h5], rfl, rfl⟩
  | or x y =>
    refine (begin_or w r g root base R τ b p x y bv ev sv Bl El Sl hs hr hb he hbase hbR hbb hlb).mono ?_
    rintro e w' ⟨h, v', b0, b1, g', h1, h2, h3, h4, h5, h6, _⟩
    exact ⟨h, _, _, _, g', [b0, b1], [], [], by simpa using h1, h2, h3, h4, by simp [On, begB, h5, h6], rfl, rfl⟩
  | star x =>
    refine (begin_star w r g root base R τ b p x bv ev sv Bl El Sl hs hr hb he hbase hbR hbb hlb hle).mono ?_
    rintro e w' ⟨h, v', u', b', g', h1, h2, h3, h4, h5, _⟩
    exact ⟨h, _, _, _, g', [b'], [b], [], by simpa using h1, h2, h3, h4, by simp [On, begB, h5], by simp [On, begE, h4.old _ _ hb], rfl⟩

theorem end_top (w : World) (r : Rx) (g : Gh) (root base R τ : Nat) (bv ev sv : Value) (Bl El Sl : List Nat) (hs : SpAt w r g root) (hr : RnAt w base R τ bv ev sv Bl El Sl) (hbase : base ≤ w.heap.size) (hbR : base ≤ R) :
    Calls Try.prog 51 #[ptr R, ptr root] w (StepTo r g root base R τ Bl El Sl [] [] [] w) := by
  refine (end_root w r g root base R τ bv ev sv Bl El Sl hs hr hbase hbR).mono ?_
  rintro e w' ⟨h, h1, h2, h3⟩
  exact ⟨h, _, _, _, g, [], [], [], by simpa using h1, h2, h3, Gg.refl g, rfl, rfl, rfl⟩

theorem end_part (w : World) (r : Rx) (g : Gh) (root base R τ b k : Nat) (p : Path) (e : Rx) (bv ev sv : Value) (Bl El Sl : List Nat) (hs : SpAt w r g root) (hr : RnAt w base R τ bv ev sv Bl El Sl) (hb : g.σ (k :: p) = some b) (he : r.at p = some e) (hk : k < 2) (hbase : base ≤ w.heap.size) (hbR : base ≤ R) (hroot : base ≤ root) (hlb : Bl.length ≤ 1048576) (hle : El.length ≤ 1048576) :
    Calls Try.prog 51 #[ptr R, ptr b] w (StepTo r g root base R τ Bl El Sl (endB e k p) (endE e k p) [] w) := by
  obtain ⟨bu, hbu⟩ := hs.par _ _ _ hb
  have hbb : base ≤ bu := Nat.le_trans hroot (hs.low p bu root hs.root hbu)
  obtain ⟨e0, _, he0, _, _⟩ := hs.at' _ _ hb
  rw [Rx.at_cons, he] at he0
  cases e with
  | set s => cases he0
  | empty => cases he0
  | cat x y =>
    rcases (show k = 0 ∨ k = 1 by omega) with rfl | rfl
    · refine (end_cat0 w r g root base R τ b bu p x y bv ev sv Bl El Sl hs hr hb hbu he hbase hbR hbb hlb).mono ?_
      rintro e w' ⟨h, v', b', g', h1, h2, h3, h4, h5, _⟩
      exact ⟨h, _, _, _, g', [b'], [], [], by simpa using h1, h2, h3, h4, by simp [On, endB, h5], rfl, rfl⟩
    · refine (end_cat1 w r g root base R τ b bu 1 p x y bv ev sv Bl El Sl hs hr hb hbu he rfl hbase hbR hle).mono ?_
      rintro e w' ⟨h, v', h1, h2, h3⟩
      exact ⟨h, _, _, _, g, [], [bu], [], by simpa using h1, h2, h3, Gg.refl g, rfl, by simp [On, endE, hbu], rfl⟩
  | or x y =>
    refine (end_or w r g root base R τ b bu k p x y bv ev sv Bl El Sl hs hr hb hbu he hbase hbR hle).mono ?_
    rintro e w' ⟨h, v', h1, h2, h3⟩
    exact ⟨h, _, _, _, g, [], [bu], [], by simpa using h1, h2, h3, Gg.refl g, rfl, by simp [On, endE, hbu], rfl⟩
  | star x =>
    refine (end_star w r g root base R τ b bu k p x bv ev sv Bl El Sl hs hr hb hbu he hbase hbR hlb).mono ?_
    rintro e w' ⟨h, v', h1, h2, h3⟩
    exact ⟨h, _, _, _, g, [bu], [], [], by simpa using h1, h2, h3, Gg.refl g, by simp [On, endB, hbu], rfl, rfl⟩
end Go.Proofs.Ytejdfpieblkapaa
