/- What begin does to what is of others. -/
import Derived.Test.YtejdfpieblkapaaM3
namespace Go.Proofs.Ytejdfpieblkapaa
open Go.RowKit

theorem rn_keep {w w' : World} {base R τ b : Nat} {bv ev sv : Value} {Bl El Sl : List Nat} (hr : RnAt w base R τ bv ev sv Bl El Sl) (hk : Kb (fun i => i = b) w w') (hb : ∃ cs, w.heap[b]? = some (.cells cs 68 (0, 0))) : RnAt w' base R τ bv ev sv Bl El Sl := by
  obtain ⟨cs, hc⟩ := hb
  have hRb : R ≠ b := by
    rintro rfl
    have := hr.blk
    rw [hc] at this
    injection this with this
    injection this with _ h2
    exact absurd h2 (by decide)
  exact ⟨(hk.block R (lt_of_heap hr.blk) hRb).trans hr.blk, own_kb hr.bo hk (fun q hq he => own_not hr.bo hc (by decide) (by rw [hq, he])), own_kb hr.eo hk (fun q hq he => own_not hr.eo hc (by decide) (by rw [hq, he])), own_kb hr.so hk (fun q hq he => own_not hr.so hc (by decide) (by rw [hq, he])), hr.be, hr.bs, hr.es⟩
theorem rn_below {w w' : World} {base R τ : Nat} {bv ev sv : Value} {Bl El Sl : List Nat} (hr : RnAt w base R τ bv ev sv Bl El Sl) (hb : Below w.heap.size w w') : RnAt w' base R τ bv ev sv Bl El Sl :=
  have hk := Kb.of_below (fun _ => False) hb
  ⟨(hk.block R (lt_of_heap hr.blk) (fun h => h)).trans hr.blk, own_kb hr.bo hk (fun _ _ h => h), own_kb hr.eo hk (fun _ _ h => h), own_kb hr.so hk (fun _ _ h => h), hr.be, hr.bs, hr.es⟩

theorem own_len {w : World} {base e size n m : Nat} {v : Value} {xs : List Value} (h : w.ownsRow base e size v n xs) (hm : n = m) : w.ownsRow base e size v m xs := by subst hm; exact h
theorem rn_c1 {w : World} {base R τ : Nat} {bv ev sv : Value} {Bl El Sl : List Nat} (hr : RnAt w base R τ bv ev sv Bl El Sl) : w.cell? ⟨R, 1, none⟩ = some bv := by rw [Lib.cell_of_heap hr.blk]; rfl
theorem rn_c2 {w : World} {base R τ : Nat} {bv ev sv : Value} {Bl El Sl : List Nat} (hr : RnAt w base R τ bv ev sv Bl El Sl) : w.cell? ⟨R, 2, none⟩ = some ev := by rw [Lib.cell_of_heap hr.blk]; rfl
theorem rn_c3 {w : World} {base R τ : Nat} {bv ev sv : Value} {Bl El Sl : List Nat} (hr : RnAt w base R τ bv ev sv Bl El Sl) : w.cell? ⟨R, 3, none⟩ = some sv := by rw [Lib.cell_of_heap hr.blk]; rfl
theorem grown_kb {w w6 : World} {o : Obj} {row : Option Nat} (h : (w.alloc o).grownBy w6 row) : Kb (fun i => some i = row) w w6 := (Kb.of_below _ ((Below.refl _ w).alloc (Nat.le_refl _) o)).trans (Kb.of_grown h) (fun _ _ h => h)
theorem rn_blk_far {w w6 : World} {base R τ n : Nat} {v bv ev sv : Value} {Bl El Sl : List Nat} {xs : List Value} (ho : w.ownsRow base 64 1 v n xs) (hr : RnAt w base R τ bv ev sv Bl El Sl) (hg : Kb (fun i => some i = v.ownBlock) w w6) : w6.heap[R]? = some (.cells #[.int .i64 τ, bv, ev, sv, .map none, .map none] 73 (0, 0)) := (hg.block R (lt_of_heap hr.blk) (own_not ho hr.blk (by decide))).trans hr.blk
theorem rn_ffar {w w6 : World} {base R τ n : Nat} {v bv ev sv : Value} {Bl El Sl : List Nat} {xs : List Value} (ho : w.ownsRow base 64 1 v n xs) (hr : RnAt w base R τ bv ev sv Bl El Sl) (hg : Kb (fun i => some i = v.ownBlock) w w6) (j : Nat) : w6.frozen? ⟨R, j, none⟩ = false := Lib.frozen_of_heap (rn_blk_far ho hr hg) j
theorem rn_far1 {w w6 : World} {base R τ : Nat} {bv ev sv : Value} {Bl El Sl : List Nat} (hr : RnAt w base R τ bv ev sv Bl El Sl) (hg : Kb (fun i => some i = bv.ownBlock) w w6) : w6.cell? ⟨R, 1, none⟩ = some bv := by rw [Lib.cell_of_heap (rn_blk_far hr.bo hr hg)]; rfl
theorem rn_far2 {w w6 : World} {base R τ : Nat} {bv ev sv : Value} {Bl El Sl : List Nat} (hr : RnAt w base R τ bv ev sv Bl El Sl) (hg : Kb (fun i => some i = ev.ownBlock) w w6) : w6.cell? ⟨R, 2, none⟩ = some ev := by rw [Lib.cell_of_heap (rn_blk_far hr.eo hr hg)]; rfl

theorem check_node (em : Bool) (a : Option Addr) (w : World) : (Instr.checkKey em 10000 23 (.pointer a)).run Try.prog w = .ok () w := by
  have h : ∀ n, (Instr.checkKey em (n + 1) 23 (.pointer a)).run Try.prog w = .ok () w := fun n => by
    rw [Instr.checkKey]
    simp [run_underlying Try.underlying23, Result.andThen]
  exact h 9999
theorem look_often (w : World) (a : Option Addr) : (Instr.lookup 70 (.map none) (.pointer a) false).run Try.prog w = .ok (.int .i64 0) w := by
  simp [Instr.lookup, run_underlying Try.underlying70, check_node, Instr.findKey, Instr.findNow, run_underlying Try.underlying23, Try.zeroValue3, Result.andThen]

/-- What a step leaves of the spots: some are new, none is gone. -/
structure Gg (g g' : Gh) : Prop where
  bg : g'.bg = g.bg
  en : g'.en = g.en
  old : ∀ p c, g.σ p = some c → g'.σ p = some c

set_option maxRecDepth 100000 in
set_option maxHeartbeats 2000000 in
theorem begin_cat (w : World) (r : Rx) (g : Gh) (root base R τ b : Nat) (p : Path) (x y : Rx) (bv ev sv : Value) (Bl El Sl : List Nat) (hs : SpAt w r g root) (hr : RnAt w base R τ bv ev sv Bl El Sl) (hb : g.σ p = some b) (he : r.at p = some (.cat x y)) (hbase : base ≤ w.heap.size) (hbR : base ≤ R) (hbb : base ≤ b) (hl : Bl.length ≤ 1048576) :
    Calls Try.prog 52 #[ptr R, ptr b] w fun e w' => e = .returned (.tuple #[]) ∧ ∃ v' b' g', RnAt w' base R τ v' ev sv (Bl ++ [b']) El Sl ∧ SpAt w' r g' root ∧ Fr base w w' ∧ Gg g g' ∧ g'.σ (0 :: p) = some b' ∧ (∀ q, q ≠ 0 :: p → g'.σ q = g.σ q) := by
  obtain ⟨e, nb, h1, h2, h3⟩ := hs.at' p b hb
  rw [he] at h1
  injection h1 with h1
  subst h1
  obtain ⟨A, n, hnb, hn⟩ := h2.blk
  obtain ⟨sA, sc, rfl, hs1, hs2⟩ := own_form hr.bo
  obtain ⟨ns, hns⟩ : ∃ ns, ns = Bl.length := ⟨_, rfl⟩
  have hr' : RnAt w base R τ (.slice sA ns sc) ev sv Bl El Sl := by rw [hns]; exact hr
  have hrb := hr'.blk
  have c0 : w.cell? ⟨b, 0, none⟩ = some (.pointer (some ⟨nb, 0, none⟩)) := by unfold SpB at h3; rw [Lib.cell_of_heap h3]; rfl
  have c1 : w.cell? ⟨b, 1, none⟩ = some (g.up p) := by unfold SpB at h3; rw [Lib.cell_of_heap h3]; rfl
  have d0 : w.cell? ⟨nb, 0, none⟩ = some (.int .i64 2) := by unfold NdB at hnb; rw [Lib.cell_of_heap hnb]; rfl
  have d5 : w.cell? ⟨nb, 5, none⟩ = some (.slice A 2 2) := by unfold NdB at hnb; rw [Lib.cell_of_heap hnb, hn]; rfl
  have r1 : w.cell? ⟨R, 1, none⟩ = some (.slice sA ns sc) := by rw [Lib.cell_of_heap hrb]; rfl
  have r4 : w.cell? ⟨R, 4, none⟩ = some (.map none) := by rw [Lib.cell_of_heap hrb]; rfl
  obtain ⟨i0, hi0, hz0, hz1, hz2⟩ := info_parts Try.info64
  have HI := Lib.hid hi0; have HZ0 := Lib.hid hz0; have HZ1 := Lib.hid hz1; have HZ2 := Lib.hid hz2
  clear hi0 hz0 hz1 hz2
  rw [← hns] at hl hs1
  have HS := Lib.hid hs; have HR := Lib.hid hr'
  have HNS := Lib.hid hns
  have hRl := lt_of_heap hrb
  have HPAR := Lib.hid hs.par
  have HB := Lib.hid hb
  have HSB := Lib.hid (show ∃ cs, w.heap[b]? = some (.cells cs 68 (0, 0)) from ⟨_, h3⟩)
  have HE := Lib.hid (show r.at (0 :: p) = some x by rw [Rx.at_cons, he]; rfl)
  clear hs hr hr' h2 h3 hnb hn hrb hns hb he
  rcases p with _ | ⟨k, p⟩
  · have c1' : w.cell? ⟨b, 1, none⟩ = some (.pointer none) := c1
    clear c1
    have hlook : ∀ w' : World, (Instr.lookup 70 (.map none) (.pointer (some ⟨nb, 0, none⟩)) false).run Try.prog w' = .ok (.int .i64 0) w' := fun w' => look_often w' _
    go_enter Try.func52, Try.ntmps52
    go_wp2_with fail
    go_quiet (fail)
    go_wp2_with fail
    have hbd : Below w.heap.size w (w.drewN nq) := below_drewN _ w nq
    generalize hw1 : w.drewN nq = w1 at hbd ⊢
    clear hw1
    have HS1 := Lib.hid (HS.out.below hbd)
    have HR1 := Lib.hid (rn_below HR.out hbd)
    have HRD := Lib.hid (rn_below HR1.out ((Below.refl _ w1).drew))
    have e1 : w1.cell? ⟨R, 1, none⟩ = some (.slice sA ns sc) := by rw [Lib.cell_of_heap HR1.out.blk]; rfl
    have HBD := Lib.hid (show ∃ cs, w1.drew.heap[b]? = some (.cells cs 68 (0, 0)) by obtain ⟨cs, hc⟩ := HSB.out; exact ⟨cs, (hbd.block b (lt_of_heap hc)).trans hc⟩)
    have HP := Lib.hid (part0_any r g root b [] x w1.drew (HS1.out.below ((Below.refl _ w1).drew)) HB.out HE.out)
    have hz1 := hbd.size
    have HBW := Lib.hid hbd
    clear hbd c0 c1' d0 d5 r1 r4 hlook
    go_region_law (first | (go_simp; go_at_call 65; (with_reducible refine HP.out.mono ?_); rintro e w2 ⟨b', g', rfl, g1, g2, g3, g4, g5, g6, g7⟩; have hr2 := rn_keep HRD.out g6 HBD.out; have ho2 : w2.ownsRow base 64 1 (.slice sA ns sc) ns (Bl.map ptr) := own_len hr2.bo HNS.out.symm; have e2 : w2.cell? ⟨R, 1, none⟩ = some (.slice sA ns sc) := rn_c1 hr2; have hz2 : w1.heap.size ≤ w2.heap.size := g6.size; have e2a : ∀ o : Obj, (w2.alloc o).cell? ⟨R, 1, none⟩ = some (.slice sA ns sc) := fun o => rn_c1 (rn_below hr2 ((Below.refl _ w2).alloc (Nat.le_refl _) o))) | (refine step_append_lies _ (by rfl) _ _ _ (by rfl) base 64 i0 _ 1 8 Try.underlying66 HI.out HZ0.out HZ1.out HZ2.out rfl (by omega) (.slice sA ns sc) ns (Bl.map ptr) (by rfl) (ho2.alloc _) ⟨w2.heap.size, 0, none⟩ 1 1 [ptr b'] (by rfl) (by rfl) (World.news_of_block (cs := #[ptr b']) (t := 64) (fr := (0, 0)) (heap_alloc_new w2 _)) (by simp [Value.oneCell']) (by omega) (by unfold maxLen; omega) (by omega) (by simp; omega) (w2.heap.size + 1) (by simp) ?_; intro gg cap6 w6 hown6 hgrow6 hat6 hlt6; have hg6 := grown_kb hgrow6; have e6 := rn_far1 hr2 hg6; have ef6 := rn_ffar hr2.bo hr2 hg6 1))
    all_goals
      have HX := Lib.hid (And.intro hown6 (And.intro hg6 (And.intro hat6 (And.intro hr2 (And.intro g5 (And.intro g6 (And.intro g1 (And.intro g2 (And.intro g3 (And.intro g4 g7))))))))))
      clear hown6 hgrow6 hat6 hlt6 hg6 e6 ef6 hr2 ho2 e2 e2a g1 g2 g3 g4 g5 g6 g7
      try go_wp2
      go_end0
      obtain ⟨hown6, hg6, hat6, hr2, g5, g6, g1, g2, g3, g4, g7⟩ := HX.out
      have hll : (Bl ++ [b']).length = ns + 1 := by rw [List.length_append, HNS.out]; rfl
      obtain ⟨a1, a2, a3⟩ := rn_push1 (new := [b']) hr2 hg6 (by rw [hll, List.map_append]; exact hown6) (hat6.elim (fun h => .inl (by rw [h]; rfl)) (fun h => .inr ⟨gg, rfl, by omega⟩)) hbR (by omega)
      have hb02 : Fr base w w2 := (Fr.of_below hbase HBW.out).trans (Fr.of_part (Kb.from_drew g6) (by omega) hbb HBD.out)
      exact ⟨rfl, _, b', g', a1, g5.kr a2 ⟨_, hr2.blk⟩, hb02.trans a3, ⟨g2, g3, g7⟩, g1, g4⟩
  · obtain ⟨bu, hbu⟩ := HPAR.out _ _ _ HB.out
    have c1' : w.cell? ⟨b, 1, none⟩ = some (.pointer (some ⟨bu, 0, none⟩)) := by rw [c1]; show some (ptrO (g.σ p)) = _; rw [hbu]; rfl
    clear c1
    have hlook : ∀ w' : World, (Instr.lookup 70 (.map none) (.pointer (some ⟨nb, 0, none⟩)) false).run Try.prog w' = .ok (.int .i64 0) w' := fun w' => look_often w' _
    go_enter Try.func52, Try.ntmps52
    go_wp2_with fail
    go_quiet (fail)
    go_wp2_with fail
    have hbd : Below w.heap.size w (w.drewN nq) := below_drewN _ w nq
    generalize hw1 : w.drewN nq = w1 at hbd ⊢
    clear hw1
    have HS1 := Lib.hid (HS.out.below hbd)
    have HR1 := Lib.hid (rn_below HR.out hbd)
    have HRD := Lib.hid (rn_below HR1.out ((Below.refl _ w1).drew))
    have e1 : w1.cell? ⟨R, 1, none⟩ = some (.slice sA ns sc) := by rw [Lib.cell_of_heap HR1.out.blk]; rfl
    have HBD := Lib.hid (show ∃ cs, w1.drew.heap[b]? = some (.cells cs 68 (0, 0)) by obtain ⟨cs, hc⟩ := HSB.out; exact ⟨cs, (hbd.block b (lt_of_heap hc)).trans hc⟩)
    have HP := Lib.hid (part0_any r g root b (k :: p) x w1.drew (HS1.out.below ((Below.refl _ w1).drew)) HB.out HE.out)
    have hz1 := hbd.size
    have HBW := Lib.hid hbd
    clear hbd c0 c1' d0 d5 r1 r4 hlook
    go_region_law (first | (go_simp; go_at_call 65; (with_reducible refine HP.out.mono ?_); rintro e w2 ⟨b', g', rfl, g1, g2, g3, g4, g5, g6, g7⟩; have hr2 := rn_keep HRD.out g6 HBD.out; have ho2 : w2.ownsRow base 64 1 (.slice sA ns sc) ns (Bl.map ptr) := own_len hr2.bo HNS.out.symm; have e2 : w2.cell? ⟨R, 1, none⟩ = some (.slice sA ns sc) := rn_c1 hr2; have hz2 : w1.heap.size ≤ w2.heap.size := g6.size; have e2a : ∀ o : Obj, (w2.alloc o).cell? ⟨R, 1, none⟩ = some (.slice sA ns sc) := fun o => rn_c1 (rn_below hr2 ((Below.refl _ w2).alloc (Nat.le_refl _) o))) | (refine step_append_lies _ (by rfl) _ _ _ (by rfl) base 64 i0 _ 1 8 Try.underlying66 HI.out HZ0.out HZ1.out HZ2.out rfl (by omega) (.slice sA ns sc) ns (Bl.map ptr) (by rfl) (ho2.alloc _) ⟨w2.heap.size, 0, none⟩ 1 1 [ptr b'] (by rfl) (by rfl) (World.news_of_block (cs := #[ptr b']) (t := 64) (fr := (0, 0)) (heap_alloc_new w2 _)) (by simp [Value.oneCell']) (by omega) (by unfold maxLen; omega) (by omega) (by simp; omega) (w2.heap.size + 1) (by simp) ?_; intro gg cap6 w6 hown6 hgrow6 hat6 hlt6; have hg6 := grown_kb hgrow6; have e6 := rn_far1 hr2 hg6; have ef6 := rn_ffar hr2.bo hr2 hg6 1))
    all_goals
      have HX := Lib.hid (And.intro hown6 (And.intro hg6 (And.intro hat6 (And.intro hr2 (And.intro g5 (And.intro g6 (And.intro g1 (And.intro g2 (And.intro g3 (And.intro g4 g7))))))))))
      clear hown6 hgrow6 hat6 hlt6 hg6 e6 ef6 hr2 ho2 e2 e2a g1 g2 g3 g4 g5 g6 g7
      try go_wp2
      go_end0
      obtain ⟨hown6, hg6, hat6, hr2, g5, g6, g1, g2, g3, g4, g7⟩ := HX.out
      have hll : (Bl ++ [b']).length = ns + 1 := by rw [List.length_append, HNS.out]; rfl
      obtain ⟨a1, a2, a3⟩ := rn_push1 (new := [b']) hr2 hg6 (by rw [hll, List.map_append]; exact hown6) (hat6.elim (fun h => .inl (by rw [h]; rfl)) (fun h => .inr ⟨gg, rfl, by omega⟩)) hbR (by omega)
      have hb02 : Fr base w w2 := (Fr.of_below hbase HBW.out).trans (Fr.of_part (Kb.from_drew g6) (by omega) hbb HBD.out)
      exact ⟨rfl, _, b', g', a1, g5.kr a2 ⟨_, hr2.blk⟩, hb02.trans a3, ⟨g2, g3, g7⟩, g1, g4⟩
end Go.Proofs.Ytejdfpieblkapaa
