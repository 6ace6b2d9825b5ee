/- What begin does to a star. -/
import Derived.Test.YtejdfpieblkapaaM4
namespace Go.Proofs.Ytejdfpieblkapaa
open Go.RowKit

set_option maxRecDepth 100000 in
set_option maxHeartbeats 2000000 in
theorem begin_star (w : World) (r : Rx) (g : Gh) (root base R τ b : Nat) (p : Path) (x : Rx) (bv ev sv : Value) (Bl El Sl : List Nat) (hs : SpAt w r g root) (hr : RnAt w base R τ bv ev sv Bl El Sl) (hb : g.σ p = some b) (he : r.at p = some (.star x)) (hbase : base ≤ w.heap.size) (hbR : base ≤ R) (hbb : base ≤ b) (hl : Bl.length ≤ 1048576) (hle : El.length ≤ 1048576) :
    Calls Try.prog 52 #[ptr R, ptr b] w fun e w' => e = .returned (.tuple #[]) ∧ ∃ v' u' b' g', RnAt w' base R τ v' u' sv (Bl ++ [b']) (El ++ [b]) Sl ∧ SpAt w' r g' root ∧ Fr base w w' ∧ Gg g g' ∧ g'.σ (0 :: p) = some b' ∧ (∀ q, q ≠ 0 :: p → g'.σ q = g.σ q) := by
  obtain ⟨e, nb, h1, h2, h3⟩ := hs.at' p b hb
  rw [he] at h1
  injection h1 with h1
  subst h1
  obtain ⟨A, n, hnb, hn⟩ := h2.blk
  obtain ⟨sA, sc, rfl, hs1, hs2⟩ := own_form hr.bo
  obtain ⟨ns, hns⟩ : ∃ ns, ns = Bl.length := ⟨_, rfl⟩
  obtain ⟨eA, ec, rfl, hes1, hes2⟩ := own_form hr.eo
  obtain ⟨ne, hne⟩ : ∃ ne, ne = El.length := ⟨_, rfl⟩
  have hr' : RnAt w base R τ (.slice sA ns sc) (.slice eA ne ec) sv Bl El Sl := by rw [hns, hne]; exact hr
  have hrb := hr'.blk
  have c0 : w.cell? ⟨b, 0, none⟩ = some (.pointer (some ⟨nb, 0, none⟩)) := by unfold SpB at h3; rw [Lib.cell_of_heap h3]; rfl
  have c1 : w.cell? ⟨b, 1, none⟩ = some (g.up p) := by unfold SpB at h3; rw [Lib.cell_of_heap h3]; rfl
  have d0 : w.cell? ⟨nb, 0, none⟩ = some (.int .i64 4) := by unfold NdB at hnb; rw [Lib.cell_of_heap hnb]; rfl
  have d5 : w.cell? ⟨nb, 5, none⟩ = some (.slice A 1 1) := by unfold NdB at hnb; rw [Lib.cell_of_heap hnb, hn]; rfl
  have r1 : w.cell? ⟨R, 1, none⟩ = some (.slice sA ns sc) := by rw [Lib.cell_of_heap hrb]; rfl
  have r4 : w.cell? ⟨R, 4, none⟩ = some (.map none) := by rw [Lib.cell_of_heap hrb]; rfl
  have r2 : w.cell? ⟨R, 2, none⟩ = some (.slice eA ne ec) := by rw [Lib.cell_of_heap hrb]; rfl
  obtain ⟨i0, hi0, hz0, hz1, hz2⟩ := info_parts Try.info64
  have HI := Lib.hid hi0; have HZ0 := Lib.hid hz0; have HZ1 := Lib.hid hz1; have HZ2 := Lib.hid hz2
  clear hi0 hz0 hz1 hz2
  rw [← hns] at hl hs1
  rw [← hne] at hle hes1
  have HNE := Lib.hid hne
  have HS := Lib.hid hs; have HR := Lib.hid hr'
  have HNS := Lib.hid hns
  have hRl := lt_of_heap hrb
  have HPAR := Lib.hid hs.par
  have HB := Lib.hid hb
  have HSB := Lib.hid (show ∃ cs, w.heap[b]? = some (.cells cs 68 (0, 0)) from ⟨_, h3⟩)
  have HE := Lib.hid (show r.at (0 :: p) = some x by rw [Rx.at_cons, he]; rfl)
  clear hs hr hr' h2 h3 hnb hn hrb hns hb he hne
  rcases p with _ | ⟨k, p⟩
  · have c1' : w.cell? ⟨b, 1, none⟩ = some (.pointer none) := c1
    clear c1
    have hlook : ∀ w' : World, (Instr.lookup 70 (.map none) (.pointer (some ⟨nb, 0, none⟩)) false).run Try.prog w' = .ok (.int .i64 0) w' := fun w' => look_often w' _
    go_enter Try.func52, Try.ntmps52
    go_wp2_with fail
    go_quiet (fail)
    go_wp2_with (at_builtin; refine wpList_append_lies _ rfl _ _ 66 rfl base 64 i0 _ 1 8 Try.underlying66 HI.out HZ0.out HZ1.out HZ2.out rfl (by omega) (.slice eA ne ec) ne _ rfl ((show (w.drewN nq).ownsRow base 64 1 (.slice eA ne ec) ne (El.map ptr) from own_len HR.out.eo HNE.out.symm).alloc _) ⟨w.heap.size, 0, none⟩ 1 1 [ptr b] rfl rfl (World.news_of_block (cs := #[ptr b]) (t := 64) (fr := (0, 0)) (heap_alloc_new (w.drewN nq) _)) (by simp [Value.oneCell']) (by omega) (by unfold maxLen; omega) (by omega) (by simp; omega) (w.heap.size + 1) (by simp) ?_)
    intro gx capx wx hownx hgrowx hatx hltx
    have hgx : Kb (fun i => some i = (Value.slice eA ne ec).ownBlock) w wx := (Kb.of_below _ ((below_drewN _ w nq).alloc (Nat.le_refl _) _)).trans (Kb.of_grown hgrowx) (fun i _ h => h)
    have ex2 := rn_far2 HR.out hgx
    have exf := rn_ffar HR.out.eo HR.out hgx 2
    have hllx : (El ++ [b]).length = ne + 1 := by rw [List.length_append, HNE.out]; rfl
    obtain ⟨y1, y2, y3⟩ := rn_push2 (new := [b]) HR.out hgx (by rw [hllx, List.map_append]; exact hownx) (hatx.elim (fun h => .inl (by rw [h]; rfl)) (fun h => .inr ⟨gx, rfl, by omega⟩)) hbR hbase
    have HY1 := Lib.hid y1; have HY3 := Lib.hid y3
    have HSx := Lib.hid (HS.out.kr y2 ⟨_, HR.out.blk⟩)
    have HBx := Lib.hid (show ∃ cs, (wx.setCell ⟨R, 2, none⟩ (.slice (some ⟨gx, 0, none⟩) (ne + 1) capx)).heap[b]? = some (.cells cs 68 (0, 0)) by obtain ⟨e, nb', _, _, h⟩ := HSx.out.at' _ _ HB.out; exact ⟨_, h⟩)
    have hzx : w.heap.size ≤ wx.heap.size := hgx.size
    clear hownx hgrowx hatx hltx hgx y1 y2 y3
    go_wp2_with fail
    clear ex2 exf
    generalize hw1 : wx.setCell ⟨R, 2, none⟩ (.slice (some ⟨gx, 0, none⟩) (ne + 1) capx) = w1 at HY1 HY3 HSx HBx ⊢
    have hzw1 : wx.heap.size = w1.heap.size := by rw [← hw1]; simp [World.setCell]
    clear hw1
    have HS1 := HSx
    have HR1 := HY1
    have HRD := Lib.hid (rn_below HR1.out ((Below.refl _ w1).drew))
    have e1 : w1.cell? ⟨R, 1, none⟩ = some (.slice sA ns sc) := by rw [Lib.cell_of_heap HR1.out.blk]; rfl
    have HBD := Lib.hid (show ∃ cs, w1.drew.heap[b]? = some (.cells cs 68 (0, 0)) by obtain ⟨cs, hc⟩ := HBx.out; exact ⟨cs, hc⟩)
    have HP := Lib.hid (part0_any r g root b [] x w1.drew (HS1.out.below ((Below.refl _ w1).drew)) HB.out HE.out)
    have hz1 : w.heap.size ≤ w1.heap.size := by omega
    clear c0 c1' d0 d5 r1 r2 r4 hlook
    go_region_law (first | (go_simp; go_at_call 65; (with_reducible refine HP.out.mono ?_); rintro e w2 ⟨b', g', rfl, g1, g2, g3, g4, g5, g6, g7⟩; have hr2 := rn_keep HRD.out g6 HBD.out; have ho2 : w2.ownsRow base 64 1 (.slice sA ns sc) ns (Bl.map ptr) := own_len hr2.bo HNS.out.symm; have e2 : w2.cell? ⟨R, 1, none⟩ = some (.slice sA ns sc) := rn_c1 hr2; have hz2 : w1.heap.size ≤ w2.heap.size := g6.size; have e2a : ∀ o : Obj, (w2.alloc o).cell? ⟨R, 1, none⟩ = some (.slice sA ns sc) := fun o => rn_c1 (rn_below hr2 ((Below.refl _ w2).alloc (Nat.le_refl _) o))) | (refine step_append_lies _ (by rfl) _ _ _ (by rfl) base 64 i0 _ 1 8 Try.underlying66 HI.out HZ0.out HZ1.out HZ2.out rfl (by omega) (.slice sA ns sc) ns (Bl.map ptr) (by rfl) (ho2.alloc _) ⟨w2.heap.size, 0, none⟩ 1 1 [ptr b'] (by rfl) (by rfl) (World.news_of_block (cs := #[ptr b']) (t := 64) (fr := (0, 0)) (heap_alloc_new w2 _)) (by simp [Value.oneCell']) (by omega) (by unfold maxLen; omega) (by omega) (by simp; omega) (w2.heap.size + 1) (by simp) ?_; intro gg cap6 w6 hown6 hgrow6 hat6 hlt6; have hg6 := grown_kb hgrow6; have e6 := rn_far1 hr2 hg6; have ef6 := rn_ffar hr2.bo hr2 hg6 1))
    all_goals
      have HX := Lib.hid (And.intro hown6 (And.intro hg6 (And.intro hat6 (And.intro hr2 (And.intro g5 (And.intro g6 (And.intro g1 (And.intro g2 (And.intro g3 (And.intro g4 g7))))))))))
      clear hown6 hgrow6 hat6 hlt6 hg6 e6 ef6 hr2 ho2 e2 e2a g1 g2 g3 g4 g5 g6 g7
      try go_wp2
      go_end0
      obtain ⟨hown6, hg6, hat6, hr2, g5, g6, g1, g2, g3, g4, g7⟩ := HX.out
      have hll : (Bl ++ [b']).length = ns + 1 := by rw [List.length_append, HNS.out]; rfl
      obtain ⟨a1, a2, a3⟩ := rn_push1 (new := [b']) hr2 hg6 (by rw [hll, List.map_append]; exact hown6) (hat6.elim (fun h => .inl (by rw [h]; rfl)) (fun h => .inr ⟨gg, rfl, by omega⟩)) hbR (by omega)
      have hb02 : Fr base w w2 := HY3.out.trans (Fr.of_part (Kb.from_drew g6) (by omega) hbb HBD.out)
      exact ⟨rfl, _, _, b', g', a1, g5.kr a2 ⟨_, hr2.blk⟩, hb02.trans a3, ⟨g2, g3, g7⟩, g1, g4⟩
  · obtain ⟨bu, hbu⟩ := HPAR.out _ _ _ HB.out
    have c1' : w.cell? ⟨b, 1, none⟩ = some (.pointer (some ⟨bu, 0, none⟩)) := by rw [c1]; show some (ptrO (g.σ p)) = _; rw [hbu]; rfl
    clear c1
    have hlook : ∀ w' : World, (Instr.lookup 70 (.map none) (.pointer (some ⟨nb, 0, none⟩)) false).run Try.prog w' = .ok (.int .i64 0) w' := fun w' => look_often w' _
    go_enter Try.func52, Try.ntmps52
    go_wp2_with fail
    go_quiet (fail)
    go_wp2_with (at_builtin; refine wpList_append_lies _ rfl _ _ 66 rfl base 64 i0 _ 1 8 Try.underlying66 HI.out HZ0.out HZ1.out HZ2.out rfl (by omega) (.slice eA ne ec) ne _ rfl ((show (w.drewN nq).ownsRow base 64 1 (.slice eA ne ec) ne (El.map ptr) from own_len HR.out.eo HNE.out.symm).alloc _) ⟨w.heap.size, 0, none⟩ 1 1 [ptr b] rfl rfl (World.news_of_block (cs := #[ptr b]) (t := 64) (fr := (0, 0)) (heap_alloc_new (w.drewN nq) _)) (by simp [Value.oneCell']) (by omega) (by unfold maxLen; omega) (by omega) (by simp; omega) (w.heap.size + 1) (by simp) ?_)
    intro gx capx wx hownx hgrowx hatx hltx
    have hgx : Kb (fun i => some i = (Value.slice eA ne ec).ownBlock) w wx := (Kb.of_below _ ((below_drewN _ w nq).alloc (Nat.le_refl _) _)).trans (Kb.of_grown hgrowx) (fun i _ h => h)
    have ex2 := rn_far2 HR.out hgx
    have exf := rn_ffar HR.out.eo HR.out hgx 2
    have hllx : (El ++ [b]).length = ne + 1 := by rw [List.length_append, HNE.out]; rfl
    obtain ⟨y1, y2, y3⟩ := rn_push2 (new := [b]) HR.out hgx (by rw [hllx, List.map_append]; exact hownx) (hatx.elim (fun h => .inl (by rw [h]; rfl)) (fun h => .inr ⟨gx, rfl, by omega⟩)) hbR hbase
    have HY1 := Lib.hid y1; have HY3 := Lib.hid y3
    have HSx := Lib.hid (HS.out.kr y2 ⟨_, HR.out.blk⟩)
    have HBx := Lib.hid (show ∃ cs, (wx.setCell ⟨R, 2, none⟩ (.slice (some ⟨gx, 0, none⟩) (ne + 1) capx)).heap[b]? = some (.cells cs 68 (0, 0)) by obtain ⟨e, nb', _, _, h⟩ := HSx.out.at' _ _ HB.out; exact ⟨_, h⟩)
    have hzx : w.heap.size ≤ wx.heap.size := hgx.size
    clear hownx hgrowx hatx hltx hgx y1 y2 y3
    go_wp2_with fail
    clear ex2 exf
    generalize hw1 : wx.setCell ⟨R, 2, none⟩ (.slice (some ⟨gx, 0, none⟩) (ne + 1) capx) = w1 at HY1 HY3 HSx HBx ⊢
    have hzw1 : wx.heap.size = w1.heap.size := by rw [← hw1]; simp [World.setCell]
    clear hw1
    have HS1 := HSx
    have HR1 := HY1
    have HRD := Lib.hid (rn_below HR1.out ((Below.refl _ w1).drew))
    have e1 : w1.cell? ⟨R, 1, none⟩ = some (.slice sA ns sc) := by rw [Lib.cell_of_heap HR1.out.blk]; rfl
    have HBD := Lib.hid (show ∃ cs, w1.drew.heap[b]? = some (.cells cs 68 (0, 0)) by obtain ⟨cs, hc⟩ := HBx.out; exact ⟨cs, hc⟩)
    have HP := Lib.hid (part0_any r g root b (k :: p) x w1.drew (HS1.out.below ((Below.refl _ w1).drew)) HB.out HE.out)
    have hz1 : w.heap.size ≤ w1.heap.size := by omega
    clear c0 c1' d0 d5 r1 r2 r4 hlook
    go_region_law (first | (go_simp; go_at_call 65; (with_reducible refine HP.out.mono ?_); rintro e w2 ⟨b', g', rfl, g1, g2, g3, g4, g5, g6, g7⟩; have hr2 := rn_keep HRD.out g6 HBD.out; have ho2 : w2.ownsRow base 64 1 (.slice sA ns sc) ns (Bl.map ptr) := own_len hr2.bo HNS.out.symm; have e2 : w2.cell? ⟨R, 1, none⟩ = some (.slice sA ns sc) := rn_c1 hr2; have hz2 : w1.heap.size ≤ w2.heap.size := g6.size; have e2a : ∀ o : Obj, (w2.alloc o).cell? ⟨R, 1, none⟩ = some (.slice sA ns sc) := fun o => rn_c1 (rn_below hr2 ((Below.refl _ w2).alloc (Nat.le_refl _) o))) | (refine step_append_lies _ (by rfl) _ _ _ (by rfl) base 64 i0 _ 1 8 Try.underlying66 HI.out HZ0.out HZ1.out HZ2.out rfl (by omega) (.slice sA ns sc) ns (Bl.map ptr) (by rfl) (ho2.alloc _) ⟨w2.heap.size, 0, none⟩ 1 1 [ptr b'] (by rfl) (by rfl) (World.news_of_block (cs := #[ptr b']) (t := 64) (fr := (0, 0)) (heap_alloc_new w2 _)) (by simp [Value.oneCell']) (by omega) (by unfold maxLen; omega) (by omega) (by simp; omega) (w2.heap.size + 1) (by simp) ?_; intro gg cap6 w6 hown6 hgrow6 hat6 hlt6; have hg6 := grown_kb hgrow6; have e6 := rn_far1 hr2 hg6; have ef6 := rn_ffar hr2.bo hr2 hg6 1))
    all_goals
      have HX := Lib.hid (And.intro hown6 (And.intro hg6 (And.intro hat6 (And.intro hr2 (And.intro g5 (And.intro g6 (And.intro g1 (And.intro g2 (And.intro g3 (And.intro g4 g7))))))))))
      clear hown6 hgrow6 hat6 hlt6 hg6 e6 ef6 hr2 ho2 e2 e2a g1 g2 g3 g4 g5 g6 g7
      try go_wp2
      go_end0
      obtain ⟨hown6, hg6, hat6, hr2, g5, g6, g1, g2, g3, g4, g7⟩ := HX.out
      have hll : (Bl ++ [b']).length = ns + 1 := by rw [List.length_append, HNS.out]; rfl
      obtain ⟨a1, a2, a3⟩ := rn_push1 (new := [b']) hr2 hg6 (by rw [hll, List.map_append]; exact hown6) (hat6.elim (fun h => .inl (by rw [h]; rfl)) (fun h => .inr ⟨gg, rfl, by omega⟩)) hbR (by omega)
      have hb02 : Fr base w w2 := HY3.out.trans (Fr.of_part (Kb.from_drew g6) (by omega) hbb HBD.out)
      exact ⟨rfl, _, _, b', g', a1, g5.kr a2 ⟨_, hr2.blk⟩, hb02.trans a3, ⟨g2, g3, g7⟩, g1, g4⟩
end Go.Proofs.Ytejdfpieblkapaa
