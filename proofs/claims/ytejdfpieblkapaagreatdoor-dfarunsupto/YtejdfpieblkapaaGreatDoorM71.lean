/- Carried from another seat. -/
import Derived.Test.YtejdfpieblkapaaGreatDoorM64
import Derived.Test.YtejdfpieblkapaaGreatDoorM68
namespace Go.Proofs.YtejdfpieblkapaaGreatDoor
open Lib renaming hid → zh
open Go.RowKit Go.Shelf

theorem En_whole {r : Rx} {T : List UInt8} {o : Nat → Bool} (h : En r T (fun i => if i = 0 then true else false) o) : o T.length = r.mt T := by
 rw [Bool.eq_iff_iff, h T.length (Nat.le_refl _), Rx.mt_iff, List.take_length]
 constructor
 ·rintro ⟨j, _, hj, hL⟩
  by_cases e : j = 0
  ·subst e; simpa using hL
  ·simp [e] at hj
 ·intro hL
  exact ⟨0, Nat.zero_le _, rfl, by simpa using hL⟩
set_option maxRecDepth 100000 in
set_option maxHeartbeats 1000000 in
theorem rmatches_any (w : World) (r : Rx) (cs : List Value) (t : ByteArray) (h : RfV w r cs) (ht : t.size ≤ 10000) : Calls Tryz.prog 14 #[.agg cs.toArray, .string t] w (Ans (.bool (r.mt t.data.toList)) w) := by
 obtain ⟨n, hn⟩ : ∃ n, n = t.size + 1 := ⟨_, rfl⟩
 have hb0 : Below w.heap.size w (w.alloc (.cells cs.toArray 36)) := (Below.refl _ w).alloc (Nat.le_refl _) _
 have hblk := heap_alloc_new w (.cells cs.toArray 36)
 have p1 : IntKind.i64.wrap ((t.size : Int) + 1) = (n : Int) := by rw [hn, IntWalk.i64_in _ (by omega)]; omega
 obtain ⟨i0, hi0, hz0, hz1, hz2⟩ := info_parts Tryz.info4
 have HI := zh hi0; have HZ0 := zh hz0; have HZ1 := zh hz1; have HZ2 := zh hz2
 clear hi0 hz0 hz1 hz2
 have hnb : n ≤ 10001 := by omega
 have hnp : 0 < n := by omega
 have hb1 := hb0.alloc (show w.heap.size ≤ (w.alloc (.cells cs.toArray 36)).heap.size by simp) (.cells (madeCells #[.bool false] n) 4)
 have hO := BlR.made (w.alloc (.cells cs.toArray 36)) n
 have hsz : (w.alloc (.cells cs.toArray 36)).heap.size = w.heap.size + 1 := by simp
 rw [hsz] at hO
 have hB := (Below.heap_alloc (w.alloc (.cells cs.toArray 36)) (.cells (madeCells #[.bool false] n) 4) w.heap.size (by simp)).trans hblk
 have HN := zh hn; have HB1 := zh hb1; have HO := zh hO; have HBk := zh hB; have HV := zh h
 have hni : (0 : Int) < n := by omega
 have htn : (t.size : Int) < n := by omega
 have htN : t.size < n := by omega
 clear hn hb0 hblk hb1 hO hB hsz h
 go_enter Tryz.func14, Tryz.ntmps14
 go_upto_region 2 with (at_make; refine wpList_make_row _ rfl _ _ 67 rfl 4 i0 (.bool false) Tryz.underlying67 HI.out HZ0.out HZ1.out rfl .i64 .i64 n rfl rfl (by rw [HZ2.out]; omega) (by omega) ?_)
 generalize (w.alloc (.cells cs.toArray 36)).alloc (.cells (madeCells #[.bool false] n) 4) = w1 at HB1 HO HBk ⊢
 obtain ⟨x1, x2⟩ := HO.out.cell hnp
 have kb := Kb.setCell w1 ⟨w.heap.size + 1, 0, none⟩ (.bool true)
 have HO2 := zh (HO.out.set 0 true)
 have HB2 := zh (HB1.out.trans (kb.below HB1.out.size (fun i hi => by rw [hi]; show w.heap.size ≤ w.heap.size + 1; omega)))
 have HBk2 := zh ((kb.block _ (lt_of_heap HBk.out) (by show w.heap.size ≠ w.heap.size + 1; omega)).trans HBk.out)
 clear kb
 go_upto_region 3 with fail
 generalize w1.setCell ⟨w.heap.size + 1, 0, none⟩ (.bool true) = w2 at HO2 HB2 HBk2 ⊢
 clear x1 x2
 have HCA := zh (ends_any r w2 cs t (w.heap.size + 1) n _ (HV.out.below HB2.out) ht HN.out HO2.out)
 go_wp2_with (refine ld30 rfl _ rfl w.heap.size 0 cs rfl (row_range HBk2.out) HV.out.len ?_)
 refine HCA.out.mono ?_
 rintro e w3 ⟨O, o, rfl, hO3, hE, hb3, _⟩
 have y1 := (hO3.cell htN).1
 have HE := zh (show o t.size = r.mt t.data.toList by rw [Lib.size_eq]; exact En_whole (hE.ext (fun _ _ => rfl)))
 have HB3 := zh (below_tr HB2.out hb3 HB2.out.size)
 have ht0 : (0 : Int) ≤ t.size := by omega
 clear hO3 hE hb3 HCA
 go_wp2_with fail
 go_ret
 exact ⟨by rw [HE.out]; rfl, HB3.out⟩

end Go.Proofs.YtejdfpieblkapaaGreatDoor
