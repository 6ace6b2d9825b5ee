/- Carried from another seat. -/
import Derived.Test.YtejdfpieblkapaaGreatDoorM2
namespace Go.Proofs.YtejdfpieblkapaaGreatDoor
open Go.RowKit


abbrev wsV (s : Ws) : Value := .agg #[.int .u64 s.a, .int .u64 s.b, .int .u64 s.c, .int .u64 s.d]
/-- A node is answered. -/
def NewNd (r : Rx) (w : World) (e : Ending) (w' : World) : Prop := ∃ nb, e = .returned (ptr nb) ∧ NdAt w' r nb ∧ Below w.heap.size w w'

theorem lt_of_cell' {w : World} {a : Addr} {v : Value} (h : w.cell? a = some v) : a.block < w.heap.size := by
  unfold World.cell? at h
  rcases Nat.lt_or_ge a.block w.heap.size with h' | h'
  · exact h'
  · simp [Array.getElem?_eq_none h'] at h
theorem empty_any (w : World) : Calls Tryz.prog 153 #[] w (NewNd .empty w) := by
  go_enter Tryz.func153, Tryz.ntmps153
  go_wp2
  go_ret
  exact ⟨w.heap.size, rfl, heap_alloc_new w _, (Below.refl _ w).alloc (Nat.le_refl _) _⟩
set_option maxHeartbeats 1000000 in
theorem set_any (s : Ws) (w : World) : Calls Tryz.prog 137 #[wsV s] w (NewNd (.set s) w) := by
  go_enter Tryz.func137, Tryz.ntmps137
  go_wp2
  go_ret
  refine ⟨w.heap.size + 1, rfl, ?_, ((Below.refl _ w).alloc (Nat.le_refl _) _).alloc (by simp) _⟩
  have := heap_alloc_new (w.alloc (.cells #[.int .u64 s.a, .int .u64 s.b, .int .u64 s.c, .int .u64 s.d] 100)) (.cells #[.int .i64 0, .int .u64 s.a, .int .u64 s.b, .int .u64 s.c, .int .u64 s.d, .slice none 0 0, .int .i64 1, .bool false] 128)
  rw [show (w.alloc (.cells #[.int .u64 s.a, .int .u64 s.b, .int .u64 s.c, .int .u64 s.d] 100)).heap.size = w.heap.size + 1 by simp] at this
  exact this
set_option maxRecDepth 100000 in
set_option maxHeartbeats 2000000 in
theorem made_any (kind : Int) (nul : Bool) (g n : Nat) (bk f : Nat → Nat) (w : World) (hn : n ≤ 2) (hc : ∀ k, k < n → w.cell? ⟨g, k, none⟩ = some (ptr (bk k))) (hf : ∀ k, k < n → w.cell? ⟨bk k, 6, none⟩ = some (.int .i64 (f k))) (hsz : ∀ k, k < n → f k ≤ 1000000000) :
    Calls Tryz.prog 142 #[.int .i64 kind, .bool nul, .slice (some ⟨g, 0, none⟩) n n] w fun e w' => e = .returned (ptr w.heap.size) ∧ Below w.heap.size w w' ∧ w'.heap[w.heap.size]? = some (.cells #[.int .i64 kind, .int .u64 0, .int .u64 0, .int .u64 0, .int .u64 0, .slice (some ⟨g, 0, none⟩) n n, .int .i64 ((1 + ((List.range n).map f).sum : Nat)), .bool nul] 128 (0, 0)) := by
  have HC := Lib.hid hc; have HF := Lib.hid hf; have HZ := Lib.hid hsz
  clear hc hf hsz
  go_enter Tryz.func142, Tryz.ntmps142
  go_wp2_with fail
  go_loopw [17] (fun i wr => ∃ k S : Nat, k ≤ n ∧ i = .int .i64 k ∧ S ≤ 1 + k * 1000000000 ∧ Hid (S = 1 + ((List.range k).map f).sum) ∧ Hid (Below w.heap.size w wr) ∧ Hid (wr.heap[w.heap.size]? = some (.cells #[.int .i64 kind, .int .u64 0, .int .u64 0, .int .u64 0, .int .u64 0, .slice (some ⟨g, 0, none⟩) n n, .int .i64 S, .bool nul] 128 (0, 0)))) (fun i _ => n - (intOf i).toNat)
  case atStart => exact ⟨0, 1, Nat.zero_le _, rfl, by omega, rfl, (Below.refl _ w).alloc (Nat.le_refl _) _, heap_alloc_new w _⟩
  case round =>
    obtain ⟨k, S, hk, rfl, hS, HS, HB, HN⟩ := hrel
    by_cases hlt : k < n
    · have hki : (k : Int) < n := by omega
      have hk0 : (0 : Int) ≤ k := by omega
      have x1 := HC.out k hlt
      have x2 := HF.out k hlt
      have hfk := HZ.out k hlt
      have hgl : g < w.heap.size := lt_of_cell' x1
      have hbl : bk k < w.heap.size := lt_of_cell' x2
      have c1 : wr.cell? ⟨g, k, none⟩ = some (ptr (bk k)) := (HB.out.cell hgl).trans x1
      have c2 : wr.cell? ⟨bk k, 6, none⟩ = some (.int .i64 (f k)) := (HB.out.cell hbl).trans x2
      have c3 : wr.cell? ⟨w.heap.size, 6, none⟩ = some (.int .i64 S) := by rw [Lib.cell_of_heap HN.out]; rfl
      have f3 : wr.frozen? ⟨w.heap.size, 6, none⟩ = false := Lib.frozen_of_heap HN.out 6
      obtain ⟨fk, hfk'⟩ : ∃ fk, fk = f k := ⟨_, rfl⟩
      rw [← hfk'] at c2 hfk
      have HFK := Lib.hid hfk'
      generalize bk k = bb at c1 c2 hbl
      clear x1 x2 hfk'
      have hmin : min (fk : Int) (IntKind.i64.wrap (9223372036854775807 - (S : Int))) = (fk : Int) := by rw [IntWalk.i64_in _ (by omega)]; omega
      go_wp2_with fail
      go_region
      go_wp2
      go_roundw
      case rel =>
        refine ⟨k + 1, S + fk, by omega, by go_num, by omega, ?_, ?_, ?_⟩
        · show S + fk = _
          rw [HS.out, List.range_succ, List.map_append, List.sum_append, HFK.out]; simp; omega
        · exact (HB.out.trans ((Kb.setCell wr ⟨w.heap.size, 6, none⟩ _).below HB.out.size (fun i hi => by rw [hi]; exact Nat.le_refl _))).drew
        · show (wr.setCell ⟨w.heap.size, 6, none⟩ (.int .i64 ((S : Int) + fk))).heap[w.heap.size]? = _
          rw [set_heap wr _ 6 _ _ _ _ HN.out]
          simp
      case measure => simp [intOf]; omega
    · obtain rfl : k = n := by omega
      go_wp2
      go_ret
      exact ⟨rfl, HB.out, by rw [HN.out, HS.out]⟩

theorem nd_size {w : World} {r : Rx} {b : Nat} (h : NdAt w r b) : w.cell? ⟨b, 6, none⟩ = some (.int .i64 r.size) ∧ w.cell? ⟨b, 7, none⟩ = some (.bool r.nul) ∧ b < w.heap.size := by
  obtain ⟨A, n, hb, _⟩ := h.blk
  unfold NdB at hb
  exact ⟨by rw [Lib.cell_of_heap hb]; rfl, by rw [Lib.cell_of_heap hb]; rfl, lt_of_heap hb⟩
/-- A node of two. -/
theorem made_two (kind : Int) (nul : Bool) (x y : Rx) (bx bY g : Nat) (w : World) (hg : w.heap[g]? = some (.cells #[ptr bx, ptr bY] 68 (0, 0))) (hx : NdAt w x bx) (hy : NdAt w y bY) (hs : x.size + y.size ≤ 1000000000) (r : Rx) (hr : (r = .cat x y ∧ kind = 2 ∧ nul = (x.nul && y.nul)) ∨ (r = .or x y ∧ kind = 3 ∧ nul = (x.nul || y.nul))) :
    Calls Tryz.prog 142 #[.int .i64 kind, .bool nul, .slice (some ⟨g, 0, none⟩) 2 2] w (NewNd r w) := by
  obtain ⟨sx, _, _⟩ := nd_size hx
  obtain ⟨sy, _, _⟩ := nd_size hy
  refine (made_any kind nul g 2 (fun k => if k = 0 then bx else bY) (fun k => if k = 0 then x.size else y.size) w (by omega) ?_ ?_ ?_).mono ?_
  · intro k hk
    rcases (show k = 0 ∨ k = 1 by omega) with rfl | rfl
    · rw [Lib.cell_of_heap hg]; rfl
    · rw [Lib.cell_of_heap hg]; rfl
  · intro k hk
    rcases (show k = 0 ∨ k = 1 by omega) with rfl | rfl
    · exact sx
    · exact sy
  · intro k hk
    rcases (show k = 0 ∨ k = 1 by omega) with rfl | rfl
    · show x.size ≤ _; omega
    · show y.size ≤ _; omega
  · rintro e w' ⟨rfl, hb, hh⟩
    have hk := KN.of_below hb
    have hg' := (hb.block g (lt_of_heap hg)).trans hg
    refine ⟨w.heap.size, rfl, ?_, hb⟩
    have hsum : ((List.range 2).map (fun k => if k = 0 then x.size else y.size)).sum = x.size + y.size := by
      simp [List.range_succ]
    rw [hsum] at hh
    rcases hr with ⟨rfl, rfl, rfl⟩ | ⟨rfl, rfl, rfl⟩
    · refine ⟨g, bx, bY, ?_, hg', hx.keep hk, hy.keep hk⟩
      unfold NdB
      rw [hh]
      simp [Rx.kind, Rx.ws, Rx.size, Rx.nul]; omega
    · refine ⟨g, bx, bY, ?_, hg', hx.keep hk, hy.keep hk⟩
      unfold NdB
      rw [hh]
      simp [Rx.kind, Rx.ws, Rx.size, Rx.nul]; omega
theorem made_one (x : Rx) (bx g : Nat) (w : World) (hg : w.heap[g]? = some (.cells #[ptr bx] 68 (0, 0))) (hx : NdAt w x bx) (hs : x.size ≤ 1000000000) :
    Calls Tryz.prog 142 #[.int .i64 4, .bool true, .slice (some ⟨g, 0, none⟩) 1 1] w (NewNd (.star x) w) := by
  obtain ⟨sx, _, _⟩ := nd_size hx
  refine (made_any 4 true g 1 (fun _ => bx) (fun _ => x.size) w (by omega) ?_ ?_ ?_).mono ?_
  · intro k hk
    obtain rfl : k = 0 := by omega
    rw [Lib.cell_of_heap hg]; rfl
  · intro k hk
    exact sx
  · intro k hk
    exact hs
  · rintro e w' ⟨rfl, hb, hh⟩
    have hk := KN.of_below hb
    have hg' := (hb.block g (lt_of_heap hg)).trans hg
    refine ⟨w.heap.size, rfl, ⟨g, bx, ?_, hg', hx.keep hk⟩, hb⟩
    have hsum : ((List.range 1).map (fun _ => x.size)).sum = x.size := by simp [List.range_succ]
    rw [hsum] at hh
    unfold NdB
    rw [hh]
    simp [Rx.kind, Rx.ws, Rx.size, Rx.nul]
theorem NewNd.wider {r : Rx} {w w1 : World} {e : Ending} {w' : World} (h : NewNd r w1 e w') (hb : Below w.heap.size w w1) : NewNd r w e w' := by
  obtain ⟨nb, h1, h2, h3⟩ := h
  exact ⟨nb, h1, h2, below_tr hb h3 hb.size⟩
theorem star_nil (w : World) : Calls Tryz.prog 152 #[.pointer none] w fun e w' => e = .returned (.pointer none) ∧ w' = w := by
  go_enter Tryz.func152, Tryz.ntmps152
  go_wp2
  go_ret
  exact ⟨rfl, rfl⟩
set_option maxHeartbeats 1000000 in
theorem star_any (x : Rx) (bx : Nat) (w : World) (hx : NdAt w x bx) (hs : x.size ≤ 1000000000) : Calls Tryz.prog 152 #[ptr bx] w (NewNd (.star x) w) := by
  have hb : Below w.heap.size w (w.alloc (.cells #[ptr bx] 68)) := (Below.refl _ w).alloc (Nat.le_refl _) _
  have HM := Lib.hid (made_one x bx w.heap.size _ (heap_alloc_new w (.cells #[ptr bx] 68)) (hx.keep (KN.of_below hb)) hs)
  have HB := Lib.hid hb
  clear hx hb
  go_enter Tryz.func152, Tryz.ntmps152
  go_wp2_with fail
  refine HM.out.mono ?_
  rintro e w' ⟨nb, rfl, h2, h3⟩
  have HN := Lib.hid (show NewNd (.star x) w (.returned (ptr nb)) w' from NewNd.wider ⟨nb, rfl, h2, h3⟩ HB.out)
  clear h2 h3
  go_wp2
  go_ret
  exact HN.out
set_option maxHeartbeats 1000000 in
theorem cat1_any (x y : Rx) (bx bY : Nat) (w : World) (hx : NdAt w x bx) (hy : NdAt w y bY) (hs : x.size + y.size ≤ 1000000000) : Calls Tryz.prog 156 #[ptr bx, ptr bY] w (NewNd (.cat x y) w) := by
  have hb : Below w.heap.size w (w.alloc (.cells #[ptr bx, ptr bY] 68)) := (Below.refl _ w).alloc (Nat.le_refl _) _
  have HM := Lib.hid (made_two 2 (x.nul && y.nul) x y bx bY w.heap.size _ (heap_alloc_new w (.cells #[ptr bx, ptr bY] 68)) (hx.keep (KN.of_below hb)) (hy.keep (KN.of_below hb)) hs (.cat x y) (.inl ⟨rfl, rfl, rfl⟩))
  have HB := Lib.hid hb
  obtain ⟨_, nx, lx⟩ := nd_size hx
  obtain ⟨_, ny, ly⟩ := nd_size hy
  clear hx hy hb
  cases hnx : x.nul <;> rw [hnx] at nx HM <;> (go_enter Tryz.func156, Tryz.ntmps156) <;> go_wp2_with fail
  all_goals
    refine HM.out.mono ?_
    rintro e w' ⟨nb, rfl, h2, h3⟩
    have HN := Lib.hid (show NewNd (.cat x y) w (.returned (ptr nb)) w' from NewNd.wider ⟨nb, rfl, h2, h3⟩ HB.out)
    clear h2 h3
    go_wp2
    go_ret
    exact HN.out
set_option maxHeartbeats 1000000 in
theorem or1_any (x y : Rx) (bx bY : Nat) (w : World) (hx : NdAt w x bx) (hy : NdAt w y bY) (hs : x.size + y.size ≤ 1000000000) : Calls Tryz.prog 141 #[ptr bx, ptr bY] w (NewNd (.or x y) w) := by
  have hb : Below w.heap.size w (w.alloc (.cells #[ptr bx, ptr bY] 68)) := (Below.refl _ w).alloc (Nat.le_refl _) _
  have HM := Lib.hid (made_two 3 (x.nul || y.nul) x y bx bY w.heap.size _ (heap_alloc_new w (.cells #[ptr bx, ptr bY] 68)) (hx.keep (KN.of_below hb)) (hy.keep (KN.of_below hb)) hs (.or x y) (.inr ⟨rfl, rfl, rfl⟩))
  have HB := Lib.hid hb
  obtain ⟨_, nx, lx⟩ := nd_size hx
  obtain ⟨_, ny, ly⟩ := nd_size hy
  clear hx hy hb
  cases hnx : x.nul <;> rw [hnx] at nx HM <;> (go_enter Tryz.func141, Tryz.ntmps141) <;> go_wp2_with fail
  all_goals
    refine HM.out.mono ?_
    rintro e w' ⟨nb, rfl, h2, h3⟩
    have HN := Lib.hid (show NewNd (.or x y) w (.returned (ptr nb)) w' from NewNd.wider ⟨nb, rfl, h2, h3⟩ HB.out)
    clear h2 h3
    go_wp2
    go_ret
    exact HN.out
end Go.Proofs.YtejdfpieblkapaaGreatDoor
