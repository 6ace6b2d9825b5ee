/- What a node tells; sets of small numbers: New, Join. -/
import Derived.Test.YtejdfpieblkapaaGreatDoorG3
import Derived.Laws.Rows
import Derived.Deep.OwnRows
import Derived.Deep.DeepCutAuto
import Derived.Deep.CutBlock
namespace Go.Proofs.YtejdfpieblkapaaGreatDoor
open Lib renaming hid → zh
open Go.RowKit Go.Shelf

set_option maxHeartbeats 1000000 in
theorem kind_any (w : World) (r : Rx) (b : Nat) (h : NdAt w r b) : Calls Tryz.prog 120 #[ptr b] w fun e w' => e = .returned (.int .i64 r.kind) ∧ w' = w := by
 obtain ⟨A, n, hb, _⟩ := h.blk
 have c0 : w.cell? ⟨b, 0, none⟩ = some (.int .i64 r.kind) := by rw [Lib.cell_of_heap hb]; rfl
 clear hb h
 generalize ((r.kind : Nat) : Int) = κ at c0
 go_enter Tryz.func120, Tryz.ntmps120
 go_wp2
 go_ret
 exact ⟨rfl, rfl⟩
set_option maxHeartbeats 1000000 in
theorem nullable_any (w : World) (r : Rx) (b : Nat) (h : NdAt w r b) : Calls Tryz.prog 123 #[ptr b] w fun e w' => e = .returned (.bool r.nul) ∧ w' = w := by
 obtain ⟨A, n, hb, _⟩ := h.blk
 have c7 : w.cell? ⟨b, 7, none⟩ = some (.bool r.nul) := by rw [Lib.cell_of_heap hb]; rfl
 clear hb h
 generalize r.nul = β at c7
 go_enter Tryz.func123, Tryz.ntmps123
 go_wp2
 go_ret
 exact ⟨rfl, rfl⟩
set_option maxRecDepth 100000 in
set_option maxHeartbeats 2000000 in
theorem bytes_any (w : World) (s : Ws) (b : Nat) (h : NdAt w (.set s) b) : Calls Tryz.prog 159 #[ptr b] w fun e w' => e = .returned (wsV s) ∧ Below w.heap.size w w' := by
 have hb : NdB w (.set s) b (.slice none 0 0) := h
 have hbl := lt_of_heap hb
 obtain ⟨w1, hw1⟩ : ∃ w1, w1 = w.alloc (.cells #[.int .u64 0, .int .u64 0, .int .u64 0, .int .u64 0] 100) := ⟨_, rfl⟩
 have hB : w1.heap[w.heap.size]? = some (.cells #[.int .u64 0, .int .u64 0, .int .u64 0, .int .u64 0] 100 (0, 0)) := by rw [hw1]; exact heap_alloc_new w _
 have hb1 : Below w.heap.size w w1 := by rw [hw1]; exact (Below.refl _ w).alloc (Nat.le_refl _) _
 have hn : w1.heap[b]? = some (.cells #[.int .i64 0, .int .u64 s.a, .int .u64 s.b, .int .u64 s.c, .int .u64 s.d, .slice none 0 0, .int .i64 1, .bool false] 128 (0, 0)) := (hb1.block b hbl).trans hb
 have c1 : w1.cell? ⟨b, 1, none⟩ = some (.int .u64 s.a) := by rw [Lib.cell_of_heap hn]; rfl
 have c2 : w1.cell? ⟨b, 2, none⟩ = some (.int .u64 s.b) := by rw [Lib.cell_of_heap hn]; rfl
 have c3 : w1.cell? ⟨b, 3, none⟩ = some (.int .u64 s.c) := by rw [Lib.cell_of_heap hn]; rfl
 have c4 : w1.cell? ⟨b, 4, none⟩ = some (.int .u64 s.d) := by rw [Lib.cell_of_heap hn]; rfl
 have z0 : w1.cell? ⟨w.heap.size, 0, none⟩ = some (.int .u64 0) := by rw [Lib.cell_of_heap hB]; rfl
 have z1 : w1.cell? ⟨w.heap.size, 1, none⟩ = some (.int .u64 0) := by rw [Lib.cell_of_heap hB]; rfl
 have z2 : w1.cell? ⟨w.heap.size, 2, none⟩ = some (.int .u64 0) := by rw [Lib.cell_of_heap hB]; rfl
 have z3 : w1.cell? ⟨w.heap.size, 3, none⟩ = some (.int .u64 0) := by rw [Lib.cell_of_heap hB]; rfl
 have f0 : w1.frozen? ⟨w.heap.size, 0, none⟩ = false := Lib.frozen_of_heap hB 0
 have f1 : w1.frozen? ⟨w.heap.size, 1, none⟩ = false := Lib.frozen_of_heap hB 1
 have f2 : w1.frozen? ⟨w.heap.size, 2, none⟩ = false := Lib.frozen_of_heap hB 2
 have f3 : w1.frozen? ⟨w.heap.size, 3, none⟩ = false := Lib.frozen_of_heap hB 3
 have HB := zh hB; have HB1 := zh hb1
 clear hB hb1 hn hb h
 go_enter Tryz.func159, Tryz.ntmps159
 go_upto_region 1 with fail
 rw [← hw1]
 clear hw1
 go_wp2_with fail
 have hh : ((((w1.setCell ⟨w.heap.size, 0, none⟩ (.int .u64 s.a)).setCell ⟨w.heap.size, 1, none⟩ (.int .u64 s.b)).setCell ⟨w.heap.size, 2, none⟩ (.int .u64 s.c)).setCell ⟨w.heap.size, 3, none⟩ (.int .u64 s.d)).heap[w.heap.size]? = some (.cells s.cells 100 (0, 0)) := by
  rw [set_heap _ _ 3 _ _ _ _ (set_heap _ _ 2 _ _ _ _ (set_heap _ _ 1 _ _ _ _ (set_heap _ _ 0 _ _ _ _ HB.out)))]
  rfl
 refine bodyPost_ret (results_cell_row rfl _ _ w.heap.size 100 s.cells (0, 0) _ rfl hh Tryz.underlying100 rfl (by kernel_rfl)) rfl ?_
 refine ⟨rfl, ?_⟩
 have hk : ∀ (w0 : World) (j : Nat) (v : Value), Below w.heap.size w w0 → Below w.heap.size w (w0.setCell ⟨w.heap.size, j, none⟩ v) := fun w0 j v h => h.trans ((Kb.setCell w0 ⟨w.heap.size, j, none⟩ v).below h.size (fun i hi => by rw [hi]; exact Nat.le_refl _))
 exact hk _ _ _ (hk _ _ _ (hk _ _ _ (hk _ _ _ HB1.out)))

theorem Tryz.info99 : (Tryz.prog.info? 99).map (fun i => (i.zero, i.size, i.bytes)) = some (some (.int .u64 0), 1, 8) := by kernel_rfl
theorem made_rep (n : Nat) : madeCells #[.int .u64 0] n = ((List.replicate n 0).map uv).toArray := by
 apply Array.toList_inj.1
 rw [toList_madeCells_one]
 simp [uv]
set_option maxRecDepth 100000 in
set_option maxHeartbeats 1000000 in
theorem bs_new (w : World) (n : Nat) (hn : n ≤ 1000000) :
  Calls Tryz.prog 49 #[.int .i64 n] w fun e w' => e = .returned (bsV w.heap.size ((n + 63) / 64)) ∧ BsAt w' w.heap.size (List.replicate ((n + 63) / 64) 0) ∧ Below w.heap.size w w' := by
 have p1 : IntKind.i64.wrap ((n : Int) + 63) = (n : Int) + 63 := IntWalk.i64_in _ (by omega)
 have p2 : Int.tdiv ((n : Int) + 63) 64 = (((n + 63) / 64 : Nat) : Int) := by rw [Int.tdiv_eq_ediv_of_nonneg (by omega)]; omega
 have hm : (n + 63) / 64 ≤ 20000 := by omega
 obtain ⟨i0, hi0, hz0, hz1, hz2⟩ := info_parts Tryz.info99
 have HI := zh hi0; have HZ0 := zh hz0; have HZ1 := zh hz1; have HZ2 := zh hz2
 clear hi0 hz0 hz1 hz2
 go_enter Tryz.func49, Tryz.ntmps49
 obtain ⟨m, hmm⟩ : ∃ m, m = (n + 63) / 64 := ⟨_, rfl⟩
 rw [← hmm] at p2 hm ⊢
 clear hmm
 go_wp2_with (at_make; refine wpList_make_row _ rfl _ _ 87 rfl 99 i0 (.int .u64 0) Tryz.underlying87 HI.out HZ0.out HZ1.out rfl .i64 .i64 m rfl rfl (by rw [HZ2.out]; omega) (by omega) ?_)
 go_ret
 refine ⟨rfl, ⟨?_, fun x hx => ?_⟩, (Below.refl _ w).alloc (Nat.le_refl _) _⟩
 ·rw [heap_alloc_new, made_rep]
 ·rw [List.eq_of_mem_replicate hx]; decide
def jk (a b : List Nat) (k : Nat) : List Nat := (jn a b).take k ++ a.drop k
theorem jk_zero (a b : List Nat) : jk a b 0 = a := by simp [jk]
theorem jk_all (a b : List Nat) (h : a.length = b.length) : jk a b a.length = jn a b := by
 unfold jk
 rw [List.take_of_length_le (by rw [jn_len a b h]; exact Nat.le_refl _), List.drop_length, List.append_nil]
theorem jk_len (a b : List Nat) (h : a.length = b.length) (k : Nat) (hk : k ≤ a.length) : (jk a b k).length = a.length := by
 unfold jk; rw [List.length_append, List.length_take, jn_len a b h, List.length_drop]; omega
theorem jk_get (a b : List Nat) (h : a.length = b.length) (k : Nat) (hk : k < a.length) : (jk a b k)[k]'(by rw [jk_len a b h k (by omega)]; exact hk) = a[k] := by
 unfold jk
 rw [List.getElem_append_right (by rw [List.length_take]; omega)]
 simp [List.length_take, jn_len a b h]
 congr 1
 omega
theorem jk_step (a b : List Nat) (h : a.length = b.length) (k : Nat) (hk : k < a.length) : (jk a b k).set k (a[k] ||| b[k]) = jk a b (k + 1) := by
 apply List.ext_getElem?
 intro i
 unfold jk
 have hj := jn_len a b h
 rcases Nat.lt_trichotomy i k with hi | hi | hi
 ·rw [List.getElem?_set_ne (by omega), List.getElem?_append_left (by rw [List.length_take]; omega), List.getElem?_append_left (by rw [List.length_take]; omega), List.getElem?_take_of_lt hi, List.getElem?_take_of_lt (by omega)]
 ·subst hi
  rw [List.getElem?_set_self (by rw [List.length_append, List.length_take, List.length_drop]; omega), List.getElem?_append_left (by rw [List.length_take]; omega), List.getElem?_take_of_lt (by omega)]
  unfold jn
  rw [List.getElem?_zipWith, List.getElem?_eq_getElem hk, List.getElem?_eq_getElem (by omega)]
 ·rw [List.getElem?_set_ne (by omega), List.getElem?_append_right (by rw [List.length_take]; omega), List.getElem?_append_right (by rw [List.length_take]; omega)]
  rw [List.getElem?_drop, List.getElem?_drop, List.length_take, List.length_take, hj]
  congr 1
  omega
theorem orw (x y : Nat) (hx : x < 2 ^ 64) (hy : y < 2 ^ 64) : bits .or .u64 (x : Int) (y : Int) = ((x ||| y : Nat) : Int) := by
 have hv : ∀ y : Nat, y < 2 ^ 64 → (BitVec.ofInt 64 (y : Int)).toNat = y := fun y hy => by
  rw [BitVec.ofInt_natCast, BitVec.toNat_ofNat]; exact Nat.mod_eq_of_lt hy
 show IntKind.u64.wrap ((BitVec.ofInt 64 (x : Int) ||| BitVec.ofInt 64 (y : Int)).toNat : Int) = _
 rw [BitVec.toNat_or, hv x hx, hv _ hy, IntKind.wrap_u64]
 have := Nat.or_lt_two_pow hx hy
 omega
set_option maxRecDepth 100000 in
set_option maxHeartbeats 1000000 in
theorem bs_join (w : World) (g h n : Nat) (ws us : List Nat) (hg : BsAt w g ws) (hh : BsAt w h us) (hgh : g ≠ h) (hn : n = ws.length) (hu : ws.length = us.length) (hn2 : n ≤ 1000000) :
  Calls Tryz.prog 87 #[bsV g n, bsV h n] w fun e w' => e = .returned (.tuple #[]) ∧ BsAt w' g (jn ws us) ∧ Kb (fun i => i = g) w w' := by
 have HG := zh hg; have HH := zh hh; have HN := zh hn; have HU := zh hu; have HE := zh hgh
 clear hg hh hn hu hgh
 go_enter Tryz.func87, Tryz.ntmps87
 go_wp2_with fail
 go_loopw [8] (fun i wr => ∃ k : Nat, k ≤ n ∧ i = .int .i64 k ∧ Hid (BsAt wr g (jk ws us k)) ∧ Hid (Kb (fun i => i = g) w wr)) (fun i _ => n - (intOf i).toNat)
 case atStart => exact ⟨0, Nat.zero_le _, rfl, by rw [jk_zero]; exact HG.out, Kb.refl _ _⟩
 case round =>
  obtain ⟨k, hk, rfl, HB, HK⟩ := hrel
  by_cases hlt : k < n
  ·have hkw : k < ws.length := by rw [← HN.out]; exact hlt
   have hku : k < us.length := by rw [← HU.out]; exact hkw
   have hki : (k : Int) < n := by omega
   have hk0 : (0 : Int) ≤ k := by omega
   have hjl := jk_len ws us HU.out k (by omega)
   obtain ⟨c1, f1⟩ := HB.out.cell (i := k) (by rw [hjl]; exact hkw)
   rw [jk_get ws us HU.out k hkw] at c1
   obtain ⟨c2, _⟩ := (HH.out.keep HK.out (fun e => HE.out e.symm)).cell hku
   have x1 := HG.out.2 _ (List.getElem_mem hkw)
   have x2 := HH.out.2 _ (List.getElem_mem hku)
   have hor := orw _ _ x1 x2
   have HS := zh (HB.out.set k (ws[k] ||| us[k]) (Nat.or_lt_two_pow x1 x2))
   rw [jk_step ws us HU.out k hkw] at HS
   generalize ws[k] = W1 at c1 hor HS x1
   generalize us[k] = W2 at c2 hor HS x2
   clear hjl
   go_wp2
   go_roundw
   case rel => exact ⟨k + 1, by omega, by go_num, HS.out, HK.out.trans (Kb.setCell wr ⟨g, k, none⟩ _) (fun i _ hi => hi)⟩
   case measure => simp [intOf]; omega
  ·obtain rfl : k = n := by omega
   go_wp2
   go_end0
   have := HB.out
   rw [HN.out, jk_all ws us HU.out] at this
   exact ⟨rfl, this, HK.out⟩
end Go.Proofs.YtejdfpieblkapaaGreatDoor
