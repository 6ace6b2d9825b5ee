/- Carried from another seat. -/
import Derived.Test.YtejdfpieblkapaaGreatDoorM2
namespace Go.Proofs.YtejdfpieblkapaaGreatDoor
open Go.RowKit


abbrev wsV (s : Ws) : Value := .agg #[.int .u64 s.a, .int .u64 s.b, .int .u64 s.c, .int .u64 s.d]
def NewNd (r : Rx) (w : World) (e : Ending) (w' : World) : Prop := ∃ nb, e = .returned (ptr nb) ∧ NdAt w' r nb ∧ Below w.heap.size w w'

theorem lt_of_cell' {w : World} {a : Addr} {v : Value} (h : w.cell? a = some v) : a.block < w.heap.size := by
 unfold World.cell? at h
 rcases Nat.lt_or_ge a.block w.heap.size with h' | h'
 ·exact h'
 ·simp [Array.getElem?_eq_none h'] at h
set_option maxRecDepth 100000 in
set_option maxHeartbeats 2000000 in
theorem made_any (kind : Int) (nul : Bool) (g n : Nat) (bk f : Nat → Nat) (w : World) (hn : n ≤ 2) (hc : ∀ k, k < n → w.cell? ⟨g, k, none⟩ = some (ptr (bk k))) (hf : ∀ k, k < n → w.cell? ⟨bk k, 6, none⟩ = some (.int .i64 (f k))) (hsz : ∀ k, k < n → f k ≤ 1000000000) :
  Calls Tryz.prog 142 #[.int .i64 kind, .bool nul, .slice (some ⟨g, 0, none⟩) n n] w fun e w' => e = .returned (ptr w.heap.size) ∧ Below w.heap.size w w' ∧ w'.heap[w.heap.size]? = some (.cells #[.int .i64 kind, .int .u64 0, .int .u64 0, .int .u64 0, .int .u64 0, .slice (some ⟨g, 0, none⟩) n n, .int .i64 ((1 + ((List.range n).map f).sum : Nat)), .bool nul] 128 (0, 0)) := by
 have HC := Lib.hid hc; have HF := Lib.hid hf; have HZ := Lib.hid hsz
 clear hc hf hsz
 go_enter Tryz.func142, Tryz.ntmps142
 go_wp2_with fail
 go_loopw [17] (fun i wr => ∃ k S : Nat, k ≤ n ∧ i = .int .i64 k ∧ S ≤ 1 + k * 1000000000 ∧ Hid (S = 1 + ((List.range k).map f).sum) ∧ Hid (Below w.heap.size w wr) ∧ Hid (wr.heap[w.heap.size]? = some (.cells #[.int .i64 kind, .int .u64 0, .int .u64 0, .int .u64 0, .int .u64 0, .slice (some ⟨g, 0, none⟩) n n, .int .i64 S, .bool nul] 128 (0, 0)))) (fun i _ => n - (intOf i).toNat)
 case atStart => exact ⟨0, 1, Nat.zero_le _, rfl, by omega, rfl, (Below.refl _ w).alloc (Nat.le_refl _) _, heap_alloc_new w _⟩
 case round =>
  obtain ⟨k, S, hk, rfl, hS, HS, HB, HN⟩ := hrel
  by_cases hlt : k < n
  ·have hki : (k : Int) < n := by omega
   have hk0 : (0 : Int) ≤ k := by omega
   have x1 := HC.out k hlt
   have x2 := HF.out k hlt
   have hfk := HZ.out k hlt
   have hgl : g < w.heap.size := lt_of_cell' x1
   have hbl : bk k < w.heap.size := lt_of_cell' x2
   have c1 : wr.cell? ⟨g, k, none⟩ = some (ptr (bk k)) := (HB.out.cell hgl).trans x1
   have c2 : wr.cell? ⟨bk k, 6, none⟩ = some (.int .i64 (f k)) := (HB.out.cell hbl).trans x2
   have c3 : wr.cell? ⟨w.heap.size, 6, none⟩ = some (.int .i64 S) := by rw [Lib.cell_of_heap HN.out]; rfl
   have f3 : wr.frozen? ⟨w.heap.size, 6, none⟩ = false := Lib.frozen_of_heap HN.out 6
   obtain ⟨fk, hfk'⟩ : ∃ fk, fk = f k := ⟨_, rfl⟩
   rw [← hfk'] at c2 hfk
   have HFK := Lib.hid hfk'
   generalize bk k = bb at c1 c2 hbl
   clear x1 x2 hfk'
   have hmin : min (fk : Int) (IntKind.i64.wrap (9223372036854775807 - (S : Int))) = (fk : Int) := by rw [IntWalk.i64_in _ (by omega)]; omega
   go_wp2_with fail
   go_region
   go_wp2
   go_roundw
   case rel =>
    refine ⟨k + 1, S + fk, by omega, by go_num, by omega, ?_, ?_, ?_⟩
    ·show S + fk = _
     rw [HS.out, List.range_succ, List.map_append, List.sum_append, HFK.out]; simp; omega
    ·exact (HB.out.trans ((Kb.setCell wr ⟨w.heap.size, 6, none⟩ _).below HB.out.size (fun i hi => by rw [hi]; exact Nat.le_refl _))).drew
    ·show (wr.setCell ⟨w.heap.size, 6, none⟩ (.int .i64 ((S : Int) + fk))).heap[w.heap.size]? = _
     rw [set_heap wr _ 6 _ _ _ _ HN.out]
     simp
   case measure => simp [intOf]; omega
  ·obtain rfl : k = n := by omega
   go_wp2
   go_ret
   exact ⟨rfl, HB.out, by rw [HN.out, HS.out]⟩

theorem nd_size {w : World} {r : Rx} {b : Nat} (h : NdAt w r b) : w.cell? ⟨b, 6, none⟩ = some (.int .i64 r.size) ∧ w.cell? ⟨b, 7, none⟩ = some (.bool r.nul) ∧ b < w.heap.size := by
 obtain ⟨A, n, hb, _⟩ := h.blk
 unfold NdB at hb
 exact ⟨by rw [Lib.cell_of_heap hb]; rfl, by rw [Lib.cell_of_heap hb]; rfl, lt_of_heap hb⟩
end Go.Proofs.YtejdfpieblkapaaGreatDoor
