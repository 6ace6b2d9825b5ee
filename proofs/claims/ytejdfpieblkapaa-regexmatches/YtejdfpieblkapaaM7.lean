/- What pop does; the end of a cat's first part. -/
import Derived.Test.YtejdfpieblkapaaM6
namespace Go.Proofs.Ytejdfpieblkapaa
open Go.RowKit

theorem pop_none (R f : Nat) (A : Option Addr) (c : Nat) (w : World) (hc : w.cell? ⟨R, f, none⟩ = some (.slice A 0 c)) :
    Calls Try.prog 50 #[.pointer (some ⟨R, f, none⟩)] w fun e w' => e = .returned (.pointer none) ∧ w' = w := by
  go_enter Try.func50, Try.ntmps50
  go_wp2
  go_ret
  exact ⟨rfl, rfl⟩

set_option maxRecDepth 100000 in
set_option maxHeartbeats 1000000 in
theorem pop_some (R f g n n1 c x : Nat) (w : World) (hn : n1 = n + 1) (hc : w.cell? ⟨R, f, none⟩ = some (.slice (some ⟨g, 0, none⟩) n1 c)) (hf : w.frozen? ⟨R, f, none⟩ = false) (hl : n1 ≤ c) (hcm : c ≤ 9223372036854775807) (hcg : w.cell? ⟨g, n, none⟩ = some (.pointer (some ⟨x, 0, none⟩))) :
    Calls Try.prog 50 #[.pointer (some ⟨R, f, none⟩)] w fun e w' => e = .returned (ptr x) ∧ w' = w.setCell ⟨R, f, none⟩ (.slice (some ⟨g, 0, none⟩) n c) := by
  have p1 : IntKind.i64.wrap ((n1 : Int) - 1) = (n : Int) := by rw [IntWalk.i64_in _ (by omega)]; omega
  have p2 : (n : Int) < (n1 : Int) := by omega
  have p3 : (0 : Int) ≤ (n : Int) := by omega
  have p4 : (n : Int) ≤ (c : Int) := by omega
  have q1 : decide ((n : Int) < 0) = false := decide_eq_false (by omega)
  clear hn
  go_enter Try.func50, Try.ntmps50
  go_wp2
  go_ret
  exact ⟨rfl, rfl⟩
set_option maxRecDepth 100000 in
set_option maxHeartbeats 2000000 in
theorem end_cat0 (w : World) (r : Rx) (g : Gh) (root base R τ b bu : Nat) (p : Path) (x y : Rx) (bv ev sv : Value) (Bl El Sl : List Nat) (hs : SpAt w r g root) (hr : RnAt w base R τ bv ev sv Bl El Sl) (hb : g.σ (0 :: p) = some b) (hbu : g.σ p = some bu) (he : r.at p = some (.cat x y)) (hbase : base ≤ w.heap.size) (hbR : base ≤ R) (hbb : base ≤ bu) (hl : Bl.length ≤ 1048576) :
    Calls Try.prog 51 #[ptr R, ptr b] w fun e w' => e = .returned (.tuple #[]) ∧ ∃ v' b' g', RnAt w' base R τ v' ev sv (Bl ++ [b']) El Sl ∧ SpAt w' r g' root ∧ Fr base w w' ∧ Gg g g' ∧ g'.σ (1 :: p) = some b' ∧ (∀ q, q ≠ 1 :: p → g'.σ q = g.σ q) := by
  obtain ⟨e0, nb0, _, _, h30⟩ := hs.at' _ b hb
  obtain ⟨e, nb, h1, h2, h3⟩ := hs.at' p bu hbu
  rw [he] at h1
  injection h1 with h1
  subst h1
  obtain ⟨A, n, hnb, hn⟩ := h2.blk
  obtain ⟨sA, sc, rfl, hs1, hs2⟩ := own_form hr.bo
  obtain ⟨ns, hns⟩ : ∃ ns, ns = Bl.length := ⟨_, rfl⟩
  have hr' : RnAt w base R τ (.slice sA ns sc) ev sv Bl El Sl := by rw [hns]; exact hr
  have hrb := hr'.blk
  have c1 : w.cell? ⟨b, 1, none⟩ = some (.pointer (some ⟨bu, 0, none⟩)) := by unfold SpB at h30; rw [Lib.cell_of_heap h30]; show some (ptrO (g.σ p)) = _; rw [hbu]; rfl
  have u0 : w.cell? ⟨bu, 0, none⟩ = some (.pointer (some ⟨nb, 0, none⟩)) := by unfold SpB at h3; rw [Lib.cell_of_heap h3]; rfl
  have u2 : w.cell? ⟨bu, 2, none⟩ = some (.pointer (some ⟨b, 0, none⟩)) := by unfold SpB at h3; rw [Lib.cell_of_heap h3]; show some (ptrO (g.σ (0 :: p))) = _; rw [hb]; rfl
  have d0 : w.cell? ⟨nb, 0, none⟩ = some (.int .i64 2) := by unfold NdB at hnb; rw [Lib.cell_of_heap hnb]; rfl
  have r1 : w.cell? ⟨R, 1, none⟩ = some (.slice sA ns sc) := by rw [Lib.cell_of_heap hrb]; rfl
  obtain ⟨j, hj, hj7⟩ := Option.map_eq_some_iff.1 Try.info68
  have heq : (binOp .eql 64 (ptr b) (.pointer (some ⟨b, 0, none⟩))).run Try.prog w = .ok (.bool true) w := run_eql_ptr_same w _ Try.underlying64 hj
  clear hj hj7
  obtain ⟨i0, hi0, hz0, hz1, hz2⟩ := info_parts Try.info64
  have HI := Lib.hid hi0; have HZ0 := Lib.hid hz0; have HZ1 := Lib.hid hz1; have HZ2 := Lib.hid hz2
  clear hi0 hz0 hz1 hz2
  rw [← hns] at hl hs1
  have HR := Lib.hid hr'
  have HNS := Lib.hid hns
  have HRD := Lib.hid (rn_below hr' ((Below.refl _ w).drew))
  have HBD := Lib.hid (show ∃ cs, w.drew.heap[bu]? = some (.cells cs 68 (0, 0)) from ⟨_, h3⟩)
  have HP := Lib.hid (part1_any r g root bu p y w.drew (hs.below ((Below.refl _ w).drew)) hbu (by rw [Rx.at_cons, he]; rfl))
  clear hs hr hr' h2 h3 h30 hnb hn hrb hns hb he hbu
  go_enter Try.func51, Try.ntmps51
  go_wp2_with fail
  go_region_law (first | (go_simp; go_at_call 65; (with_reducible refine HP.out.mono ?_); rintro e w2 ⟨b', g', rfl, g1, g2, g3, g4, g5, g6, g7⟩; have hr2 := rn_keep HRD.out g6 HBD.out; have ho2 : w2.ownsRow base 64 1 (.slice sA ns sc) ns (Bl.map ptr) := own_len hr2.bo HNS.out.symm; have e2 : w2.cell? ⟨R, 1, none⟩ = some (.slice sA ns sc) := rn_c1 hr2; have hz2 : w.heap.size ≤ w2.heap.size := g6.size; have e2a : ∀ o : Obj, (w2.alloc o).cell? ⟨R, 1, none⟩ = some (.slice sA ns sc) := fun o => rn_c1 (rn_below hr2 ((Below.refl _ w2).alloc (Nat.le_refl _) o))) | (refine step_append_lies _ (by rfl) _ _ _ (by rfl) base 64 i0 _ 1 8 Try.underlying66 HI.out HZ0.out HZ1.out HZ2.out rfl (by omega) (.slice sA ns sc) ns (Bl.map ptr) (by rfl) (ho2.alloc _) ⟨w2.heap.size, 0, none⟩ 1 1 [ptr b'] (by rfl) (by rfl) (World.news_of_block (cs := #[ptr b']) (t := 64) (fr := (0, 0)) (heap_alloc_new w2 _)) (by simp [Value.oneCell']) (by omega) (by unfold maxLen; omega) (by omega) (by simp; omega) (w2.heap.size + 1) (by simp) ?_; intro gg cap6 w6 hown6 hgrow6 hat6 hlt6; have hg6 := grown_kb hgrow6; have e6 := rn_far1 hr2 hg6; have ef6 := rn_ffar hr2.bo hr2 hg6 1))
  all_goals
    have HX := Lib.hid (And.intro hown6 (And.intro hg6 (And.intro hat6 (And.intro hr2 (And.intro g5 (And.intro g6 (And.intro g1 (And.intro g2 (And.intro g3 (And.intro g4 g7))))))))))
    clear hown6 hgrow6 hat6 hlt6 hg6 e6 ef6 hr2 ho2 e2 e2a g1 g2 g3 g4 g5 g6 g7
    try go_wp2
    go_end0
    obtain ⟨hown6, hg6, hat6, hr2, g5, g6, g1, g2, g3, g4, g7⟩ := HX.out
    have hll : (Bl ++ [b']).length = ns + 1 := by rw [List.length_append, HNS.out]; rfl
    obtain ⟨a1, a2, a3⟩ := rn_push1 (new := [b']) hr2 hg6 (by rw [hll, List.map_append]; exact hown6) (hat6.elim (fun h => .inl (by rw [h]; rfl)) (fun h => .inr ⟨gg, rfl, by omega⟩)) hbR (by omega)
    have hb02 : Fr base w w2 := Fr.of_part (Kb.from_drew g6) (by omega) hbb HBD.out
    exact ⟨rfl, _, b', g', a1, g5.kr a2 ⟨_, hr2.blk⟩, hb02.trans a3, ⟨g2, g3, g7⟩, g1, g4⟩
end Go.Proofs.Ytejdfpieblkapaa
