/- What end does. -/
import Derived.Test.YtejdfpieblkapaaM5
import Derived.LaidEqlPtr
namespace Go.Proofs.Ytejdfpieblkapaa
open Go.RowKit

theorem grown_kb_drew {w w6 : World} {o : Obj} {row : Option Nat} (h : (w.alloc o).drew.grownBy w6 row) : Kb (fun i => some i = row) w w6 := (Kb.of_below _ (((Below.refl _ w).alloc (Nat.le_refl _) o).drew)).trans (Kb.of_grown h) (fun _ _ h => h)
theorem cell_at {w : World} {b j t : Nat} {cs : Array Value} {fz : Nat × Nat} {v : Value} (h : w.heap[b]? = some (.cells cs t fz)) (hv : cs[j]? = some v) : w.cell? ⟨b, j, none⟩ = some v := by rw [Lib.cell_of_heap h]; exact hv

set_option maxRecDepth 100000 in
set_option maxHeartbeats 2000000 in
theorem end_or (w : World) (r : Rx) (g : Gh) (root base R τ b bu k : Nat) (p : Path) (x y : Rx) (bv ev sv : Value) (Bl El Sl : List Nat) (hs : SpAt w r g root) (hr : RnAt w base R τ bv ev sv Bl El Sl) (hb : g.σ (k :: p) = some b) (hbu : g.σ p = some bu) (he : r.at p = some (.or x y)) (hbase : base ≤ w.heap.size) (hbR : base ≤ R) (hl : El.length ≤ 1048576) :
    Calls Try.prog 51 #[ptr R, ptr b] w fun e w' => e = .returned (.tuple #[]) ∧ ∃ v', RnAt w' base R τ bv v' sv Bl (El ++ [bu]) Sl ∧ SpAt w' r g root ∧ Fr base w w' := by
  obtain ⟨e0, nb0, _, _, h30⟩ := hs.at' _ b hb
  obtain ⟨e, nb, h1, h2, h3⟩ := hs.at' p bu hbu
  rw [he] at h1
  injection h1 with h1
  subst h1
  obtain ⟨A, n, hnb, hn⟩ := h2.blk
  obtain ⟨sA, sc, rfl, hs1, hs2⟩ := own_form hr.eo
  obtain ⟨ns, hns⟩ : ∃ ns, ns = El.length := ⟨_, rfl⟩
  have hr' : RnAt w base R τ bv (.slice sA ns sc) sv Bl El Sl := by rw [hns]; exact hr
  have hrb := hr'.blk
  have c1 : w.cell? ⟨b, 1, none⟩ = some (.pointer (some ⟨bu, 0, none⟩)) := by unfold SpB at h30; rw [Lib.cell_of_heap h30]; show some (ptrO (g.σ p)) = _; rw [hbu]; rfl
  have u0 : w.cell? ⟨bu, 0, none⟩ = some (.pointer (some ⟨nb, 0, none⟩)) := by unfold SpB at h3; rw [Lib.cell_of_heap h3]; rfl
  have u2 : w.cell? ⟨bu, 2, none⟩ = some (ptrO (g.σ (0 :: p))) := by unfold SpB at h3; rw [Lib.cell_of_heap h3]; rfl
  have d0 : w.cell? ⟨nb, 0, none⟩ = some (.int .i64 3) := by unfold NdB at hnb; rw [Lib.cell_of_heap hnb]; rfl
  have r1 : w.cell? ⟨R, 2, none⟩ = some (.slice sA ns sc) := by rw [Lib.cell_of_heap hrb]; rfl
  have hal := fun o : Obj => (Below.refl _ w).alloc (Nat.le_refl _) o
  have r1a : ∀ o : Obj, (w.alloc o).cell? ⟨R, 2, none⟩ = some (.slice sA ns sc) := fun o => ((hal o).cell (p := ⟨R, 2, none⟩) (lt_of_heap hrb)).trans r1
  have c1a : ∀ o : Obj, (w.alloc o).cell? ⟨b, 1, none⟩ = some (.pointer (some ⟨bu, 0, none⟩)) := fun o => ((hal o).cell (p := ⟨b, 1, none⟩) (lt_of_heap h30)).trans c1
  obtain ⟨i0, hi0, hz0, hz1, hz2⟩ := info_parts Try.info64
  have HI := Lib.hid hi0; have HZ0 := Lib.hid hz0; have HZ1 := Lib.hid hz1; have HZ2 := Lib.hid hz2
  clear hi0 hz0 hz1 hz2 hal
  rw [← hns] at hl hs1
  have HS := Lib.hid hs; have HR := Lib.hid hr'
  have HO := Lib.hid (show w.ownsRow base 64 1 (.slice sA ns sc) ns (El.map ptr) by rw [hns]; exact hr.eo)
  have HNS := Lib.hid hns
  have hRl := lt_of_heap hrb
  clear u2
  clear hs hr hr' h2 h3 h30 hnb hn hrb hns hb he hbu
  go_enter Try.func51, Try.ntmps51
  go_wp2_with fail
  go_region_law ((refine step_append_lies _ (by rfl) _ _ _ (by rfl) base 64 i0 _ 1 8 Try.underlying66 HI.out HZ0.out HZ1.out HZ2.out rfl (by omega) (.slice sA ns sc) ns (El.map ptr) (by rfl) (HO.out.alloc _).drew ⟨w.heap.size, 0, none⟩ 1 1 [ptr bu] (by rfl) (by rfl) (World.news_of_block (cs := #[ptr bu]) (t := 64) (fr := (0, 0)) (heap_alloc_new w _)) (by simp [Value.oneCell']) (by omega) (by unfold maxLen; omega) (by omega) (by simp; omega) (w.heap.size + 1) (by simp) ?_; intro gg cap6 w6 hown6 hgrow6 hat6 hlt6; have hg6 := grown_kb_drew hgrow6; have hb6 := rn_blk_far HR.out.eo HR.out hg6; have e6 : w6.cell? ⟨R, 2, none⟩ = some (.slice sA ns sc) := cell_at hb6 rfl; have ef6 := rn_ffar HR.out.eo HR.out hg6 2))
  all_goals
    have HX := Lib.hid (And.intro hown6 (And.intro hg6 hat6))
    clear hown6 hgrow6 hat6 hlt6 hg6 hb6 e6 ef6
    try go_wp2
    go_end0
    obtain ⟨hown6, hg6, hat6⟩ := HX.out
    have hll : (El ++ [bu]).length = ns + 1 := by rw [List.length_append, HNS.out]; rfl
    obtain ⟨a1, a2, a3⟩ := rn_push2 (new := [bu]) HR.out hg6 (by rw [hll, List.map_append]; exact hown6) (hat6.elim (fun h => .inl (by rw [h]; rfl)) (fun h => .inr ⟨gg, rfl, by omega⟩)) hbR hbase
    exact ⟨rfl, _, a1, HS.out.kr a2 ⟨_, HR.out.blk⟩, a3⟩

set_option maxRecDepth 100000 in
set_option maxHeartbeats 2000000 in
theorem end_star (w : World) (r : Rx) (g : Gh) (root base R τ b bu k : Nat) (p : Path) (x : Rx) (bv ev sv : Value) (Bl El Sl : List Nat) (hs : SpAt w r g root) (hr : RnAt w base R τ bv ev sv Bl El Sl) (hb : g.σ (k :: p) = some b) (hbu : g.σ p = some bu) (he : r.at p = some (.star x)) (hbase : base ≤ w.heap.size) (hbR : base ≤ R) (hl : Bl.length ≤ 1048576) :
    Calls Try.prog 51 #[ptr R, ptr b] w fun e w' => e = .returned (.tuple #[]) ∧ ∃ v', RnAt w' base R τ v' ev sv (Bl ++ [bu]) El Sl ∧ SpAt w' r g root ∧ Fr base w w' := by
  obtain ⟨e0, nb0, _, _, h30⟩ := hs.at' _ b hb
  obtain ⟨e, nb, h1, h2, h3⟩ := hs.at' p bu hbu
  rw [he] at h1
  injection h1 with h1
  subst h1
  obtain ⟨A, n, hnb, hn⟩ := h2.blk
  obtain ⟨sA, sc, rfl, hs1, hs2⟩ := own_form hr.bo
  obtain ⟨ns, hns⟩ : ∃ ns, ns = Bl.length := ⟨_, rfl⟩
  have hr' : RnAt w base R τ (.slice sA ns sc) ev sv Bl El Sl := by rw [hns]; exact hr
  have hrb := hr'.blk
  have c1 : w.cell? ⟨b, 1, none⟩ = some (.pointer (some ⟨bu, 0, none⟩)) := by unfold SpB at h30; rw [Lib.cell_of_heap h30]; show some (ptrO (g.σ p)) = _; rw [hbu]; rfl
  have u0 : w.cell? ⟨bu, 0, none⟩ = some (.pointer (some ⟨nb, 0, none⟩)) := by unfold SpB at h3; rw [Lib.cell_of_heap h3]; rfl
  have u2 : w.cell? ⟨bu, 2, none⟩ = some (ptrO (g.σ (0 :: p))) := by unfold SpB at h3; rw [Lib.cell_of_heap h3]; rfl
  have d0 : w.cell? ⟨nb, 0, none⟩ = some (.int .i64 4) := by unfold NdB at hnb; rw [Lib.cell_of_heap hnb]; rfl
  have r1 : w.cell? ⟨R, 1, none⟩ = some (.slice sA ns sc) := by rw [Lib.cell_of_heap hrb]; rfl
  have hal := fun o : Obj => (Below.refl _ w).alloc (Nat.le_refl _) o
  have r1a : ∀ o : Obj, (w.alloc o).cell? ⟨R, 1, none⟩ = some (.slice sA ns sc) := fun o => ((hal o).cell (p := ⟨R, 1, none⟩) (lt_of_heap hrb)).trans r1
  have c1a : ∀ o : Obj, (w.alloc o).cell? ⟨b, 1, none⟩ = some (.pointer (some ⟨bu, 0, none⟩)) := fun o => ((hal o).cell (p := ⟨b, 1, none⟩) (lt_of_heap h30)).trans c1
  obtain ⟨i0, hi0, hz0, hz1, hz2⟩ := info_parts Try.info64
  have HI := Lib.hid hi0; have HZ0 := Lib.hid hz0; have HZ1 := Lib.hid hz1; have HZ2 := Lib.hid hz2
  clear hi0 hz0 hz1 hz2 hal
  rw [← hns] at hl hs1
  have HS := Lib.hid hs; have HR := Lib.hid hr'
  have HO := Lib.hid (show w.ownsRow base 64 1 (.slice sA ns sc) ns (Bl.map ptr) by rw [hns]; exact hr.bo)
  have HNS := Lib.hid hns
  have hRl := lt_of_heap hrb
  clear u2
  clear hs hr hr' h2 h3 h30 hnb hn hrb hns hb he hbu
  go_enter Try.func51, Try.ntmps51
  go_wp2_with fail
  go_region_law ((refine step_append_lies _ (by rfl) _ _ _ (by rfl) base 64 i0 _ 1 8 Try.underlying66 HI.out HZ0.out HZ1.out HZ2.out rfl (by omega) (.slice sA ns sc) ns (Bl.map ptr) (by rfl) (HO.out.alloc _).drew ⟨w.heap.size, 0, none⟩ 1 1 [ptr bu] (by rfl) (by rfl) (World.news_of_block (cs := #[ptr bu]) (t := 64) (fr := (0, 0)) (heap_alloc_new w _)) (by simp [Value.oneCell']) (by omega) (by unfold maxLen; omega) (by omega) (by simp; omega) (w.heap.size + 1) (by simp) ?_; intro gg cap6 w6 hown6 hgrow6 hat6 hlt6; have hg6 := grown_kb_drew hgrow6; have hb6 := rn_blk_far HR.out.bo HR.out hg6; have e6 : w6.cell? ⟨R, 1, none⟩ = some (.slice sA ns sc) := cell_at hb6 rfl; have ef6 := rn_ffar HR.out.bo HR.out hg6 1))
  all_goals
    have HX := Lib.hid (And.intro hown6 (And.intro hg6 hat6))
    clear hown6 hgrow6 hat6 hlt6 hg6 hb6 e6 ef6
    try go_wp2
    go_end0
    obtain ⟨hown6, hg6, hat6⟩ := HX.out
    have hll : (Bl ++ [bu]).length = ns + 1 := by rw [List.length_append, HNS.out]; rfl
    obtain ⟨a1, a2, a3⟩ := rn_push1 (new := [bu]) HR.out hg6 (by rw [hll, List.map_append]; exact hown6) (hat6.elim (fun h => .inl (by rw [h]; rfl)) (fun h => .inr ⟨gg, rfl, by omega⟩)) hbR hbase
    exact ⟨rfl, _, a1, HS.out.kr a2 ⟨_, HR.out.blk⟩, a3⟩

theorem Try.info68 : (Try.prog.info? 68).map (fun i => i.size) = some 7 := by kernel_rfl

set_option maxRecDepth 100000 in
set_option maxHeartbeats 2000000 in
theorem end_cat1 (w : World) (r : Rx) (g : Gh) (root base R τ b bu k : Nat) (p : Path) (x y : Rx) (bv ev sv : Value) (Bl El Sl : List Nat) (hs : SpAt w r g root) (hr : RnAt w base R τ bv ev sv Bl El Sl) (hb : g.σ (k :: p) = some b) (hbu : g.σ p = some bu) (he : r.at p = some (.cat x y)) (hk : k = 1) (hbase : base ≤ w.heap.size) (hbR : base ≤ R) (hl : El.length ≤ 1048576) :
    Calls Try.prog 51 #[ptr R, ptr b] w fun e w' => e = .returned (.tuple #[]) ∧ ∃ v', RnAt w' base R τ bv v' sv Bl (El ++ [bu]) Sl ∧ SpAt w' r g root ∧ Fr base w w' := by
  obtain ⟨e0, nb0, _, _, h30⟩ := hs.at' _ b hb
  obtain ⟨e, nb, h1, h2, h3⟩ := hs.at' p bu hbu
  rw [he] at h1
  injection h1 with h1
  subst h1
  obtain ⟨A, n, hnb, hn⟩ := h2.blk
  obtain ⟨sA, sc, rfl, hs1, hs2⟩ := own_form hr.eo
  obtain ⟨ns, hns⟩ : ∃ ns, ns = El.length := ⟨_, rfl⟩
  have hr' : RnAt w base R τ bv (.slice sA ns sc) sv Bl El Sl := by rw [hns]; exact hr
  have hrb := hr'.blk
  have c1 : w.cell? ⟨b, 1, none⟩ = some (.pointer (some ⟨bu, 0, none⟩)) := by unfold SpB at h30; rw [Lib.cell_of_heap h30]; show some (ptrO (g.σ p)) = _; rw [hbu]; rfl
  have u0 : w.cell? ⟨bu, 0, none⟩ = some (.pointer (some ⟨nb, 0, none⟩)) := by unfold SpB at h3; rw [Lib.cell_of_heap h3]; rfl
  have u2 : w.cell? ⟨bu, 2, none⟩ = some (ptrO (g.σ (0 :: p))) := by unfold SpB at h3; rw [Lib.cell_of_heap h3]; rfl
  have d0 : w.cell? ⟨nb, 0, none⟩ = some (.int .i64 2) := by unfold NdB at hnb; rw [Lib.cell_of_heap hnb]; rfl
  have r1 : w.cell? ⟨R, 2, none⟩ = some (.slice sA ns sc) := by rw [Lib.cell_of_heap hrb]; rfl
  have hal := fun o : Obj => (Below.refl _ w).alloc (Nat.le_refl _) o
  have r1a : ∀ o : Obj, (w.alloc o).cell? ⟨R, 2, none⟩ = some (.slice sA ns sc) := fun o => ((hal o).cell (p := ⟨R, 2, none⟩) (lt_of_heap hrb)).trans r1
  have c1a : ∀ o : Obj, (w.alloc o).cell? ⟨b, 1, none⟩ = some (.pointer (some ⟨bu, 0, none⟩)) := fun o => ((hal o).cell (p := ⟨b, 1, none⟩) (lt_of_heap h30)).trans c1
  obtain ⟨i0, hi0, hz0, hz1, hz2⟩ := info_parts Try.info64
  have HI := Lib.hid hi0; have HZ0 := Lib.hid hz0; have HZ1 := Lib.hid hz1; have HZ2 := Lib.hid hz2
  clear hi0 hz0 hz1 hz2 hal
  rw [← hns] at hl hs1
  have HS := Lib.hid hs; have HR := Lib.hid hr'
  have HO := Lib.hid (show w.ownsRow base 64 1 (.slice sA ns sc) ns (El.map ptr) by rw [hns]; exact hr.eo)
  have HNS := Lib.hid hns
  have hRl := lt_of_heap hrb
  obtain ⟨z0, hz0, heq⟩ : ∃ z0, ptrO (g.σ (0 :: p)) = .pointer z0 ∧ (binOp .eql 64 (ptr b) (.pointer z0)).run Try.prog w = .ok (.bool false) w := by
    obtain ⟨j, hj, hj7⟩ := Option.map_eq_some_iff.1 Try.info68
    cases hq : g.σ (0 :: p) with
    | none => exact ⟨none, rfl, run_eql_pointer_nil w 64 _ Try.underlying64⟩
    | some c =>
      refine ⟨some ⟨c, 0, none⟩, rfl, ?_⟩
      obtain ⟨_, _, _, _, hc⟩ := hs.at' _ c hq
      refine run_eql_ptr_other w Try.underlying64 hj (by omega) ?_ h30 hc
      intro e
      injection e with e _
      subst e
      have := hs.inj _ _ _ hb hq
      rw [hk] at this
      simp at this
  rw [hz0] at u2
  clear hz0
  clear hs hr hr' h2 h3 h30 hnb hn hrb hns hb he hbu
  go_enter Try.func51, Try.ntmps51
  go_wp2_with fail
  go_region_law ((refine step_append_lies _ (by rfl) _ _ _ (by rfl) base 64 i0 _ 1 8 Try.underlying66 HI.out HZ0.out HZ1.out HZ2.out rfl (by omega) (.slice sA ns sc) ns (El.map ptr) (by rfl) (HO.out.alloc _).drew ⟨w.heap.size, 0, none⟩ 1 1 [ptr bu] (by rfl) (by rfl) (World.news_of_block (cs := #[ptr bu]) (t := 64) (fr := (0, 0)) (heap_alloc_new w _)) (by simp [Value.oneCell']) (by omega) (by unfold maxLen; omega) (by omega) (by simp; omega) (w.heap.size + 1) (by simp) ?_; intro gg cap6 w6 hown6 hgrow6 hat6 hlt6; have hg6 := grown_kb_drew hgrow6; have hb6 := rn_blk_far HR.out.eo HR.out hg6; have e6 : w6.cell? ⟨R, 2, none⟩ = some (.slice sA ns sc) := cell_at hb6 rfl; have ef6 := rn_ffar HR.out.eo HR.out hg6 2))
  all_goals
    have HX := Lib.hid (And.intro hown6 (And.intro hg6 hat6))
    clear hown6 hgrow6 hat6 hlt6 hg6 hb6 e6 ef6
    try go_wp2
    go_end0
    obtain ⟨hown6, hg6, hat6⟩ := HX.out
    have hll : (El ++ [bu]).length = ns + 1 := by rw [List.length_append, HNS.out]; rfl
    obtain ⟨a1, a2, a3⟩ := rn_push2 (new := [bu]) HR.out hg6 (by rw [hll, List.map_append]; exact hown6) (hat6.elim (fun h => .inl (by rw [h]; rfl)) (fun h => .inr ⟨gg, rfl, by omega⟩)) hbR hbase
    exact ⟨rfl, _, a1, HS.out.kr a2 ⟨_, HR.out.blk⟩, a3⟩

end Go.Proofs.Ytejdfpieblkapaa
