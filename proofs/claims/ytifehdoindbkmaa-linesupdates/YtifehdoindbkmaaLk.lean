/- The law LinesUpdates, within the text. -/
import Derived.Test.YtifehdoindbkmaaLj
namespace Go.Proofs.Ytifehdoindbkmaa
open Go.RowKit Go.Shelf

attribute [local go_sem] Oper.semAt_some

set_option maxRecDepth 100000 in
set_option maxHeartbeats 2000000 in
theorem law_updates_in (s v : ByteArray) (p q : Nat) (w : World) (hs : s.size ≤ 2000) (hv : v.size ≤ 300) (hpq : p ≤ q) (hq : q ≤ s.size) : Calls Try.prog 4 #[.string s, .int .i64 p, .int .i64 q, .string v] w (Fine w) := by
  have HN := new_any s w (by omega)
  have i1 : (p : Int) ≤ (q : Int) := by omega
  have i2 : (q : Int) ≤ (s.size : Int) := by omega
  have i3 : (p : Int) ≤ (s.size : Int) := by omega
  go_enter Try.func4, Try.ntmps4
  go_wp2_with fail
  refine HN.mono ?_
  rintro e w1 ⟨X, A, c, rfl, hX, hb⟩
  clear HN
  have HP := update_yes w.heap.size X c p q s v A w1 hX hpq hq (by omega) (by omega)
  go_wp2_with fail
  refine HP.mono ?_
  rintro e w2 ⟨Y, A2, c2, rfl, hY, hb2⟩
  have hX2 := hX.below hb2
  have hbw2 := hb.trans (hb2.mono hb.size)
  clear HP hX hb2
  go_wp2_with fail
  have z1 : (s.extract 0 p).size = p := by simp; omega
  have z2 : (s.extract q s.size).size = s.size - q := by simp
  have r1 := fun W => run_string_add_sum (P := Try.prog) (w := W) (s.extract 0 p) v (by omega)
  have r2 := fun W => run_string_add_sum (P := Try.prog) (w := W) (s.extract 0 p ++ v) (s.extract q s.size) (by rw [ByteArray.size_append]; omega)
  have HN3 := fun W => new_any (s.extract 0 p ++ v ++ s.extract q s.size) W (by rw [ByteArray.size_append, ByteArray.size_append]; omega)
  go_region_held3 (fun _ => True) (trivial) (first | (go_at_call 6; (with_reducible refine (HN3 _).mono ?_); rintro e w3 ⟨Z, A3, c3, rfl, hZ, hb3⟩))
  have hcat : s.extract 0 p ++ v ++ s.extract q s.size = edT s v p q := by
    have h : (s.data.toList.drop q).take (s.size - q) = s.data.toList.drop q := List.take_of_length_le (by rw [List.length_drop, ← Lib.size_eq]; exact Nat.le_refl _)
    apply ByteArray.ext
    apply Array.toList_inj.1
    rw [edT_data]
    simp only [ByteArray.data_append, Array.toList_append, extract_list, h, List.drop_zero, Nat.sub_zero, List.append_assoc]
  rw [hcat] at hZ
  have hTs := edT_size s v (show p ≤ s.size by omega) hq
  generalize edT s v p q = T at *
  have hb3' : Below w2.heap.size w2 w3 := (Below.refl w2.heap.size w2).drew.trans hb3
  have hX3 := hX2.below hb3'
  have hY3 := hY.below hb3'
  have hbw3 := hbw2.trans (hb3'.mono hbw2.size)
  have hTb : T.size ≤ 10000 := by omega
  have hbl := bgs_len T
  clear hcat hTs hb3 hb3' HN3 r1 r2 z1 z2 hX2 hY hbw2 hb
  have q0 : (s.toList == s.toList) = true := by simp
  have q1 : (T.toList == T.toList) = true := by simp
  have HC1 := count_any _ Y c2 T A2 w3 hY3 (by omega)
  have HC2 := count_any _ Z c3 T A3 w3 hZ (by omega)
  have HT1 := text_any _ Y c2 T A2 w3 hY3 (by omega)
  have hZ' : XAt w3 w2.heap.size Z T A3 c3 := hZ
  clear hZ
  have HT2 := fun W h => text_any w2.heap.size Z c3 T A3 W h (by omega)
  have HT3 := fun W h => text_any w.heap.size X c s A W h (by omega)
  go_wp2_with fail
  refine HC1.mono ?_
  rintro e w4 ⟨rfl, rfl⟩
  go_wp2_with fail
  refine HC2.mono ?_
  rintro e w4 ⟨rfl, rfl⟩
  go_wp2_with fail
  refine HT1.mono ?_
  rintro e w4 ⟨rfl, hb4⟩
  have hbw4 := hbw3.trans (hb4.mono hbw3.size)
  have hX4 := hX3.below hb4
  have hY4 := hY3.below hb4
  have hZ4 := hZ'.below hb4
  clear HC1 HC2 HT1 hb4 hbw3 hX3 hY3 hZ'
  go_wp2_with fail
  refine (HT2 _ hZ4).mono ?_
  rintro e w5 ⟨rfl, hb5⟩
  have hbw5 := hbw4.trans (hb5.mono hbw4.size)
  have hX5 := hX4.below hb5
  have hY5 := hY4.below hb5
  have hZ5 := hZ4.below hb5
  clear HT2 hb5 hbw4 hX4 hY4 hZ4
  go_wp2_with fail
  refine (HT3 _ hX5).mono ?_
  rintro e w6 ⟨rfl, hb6⟩
  have hbw6 := hbw5.trans (hb6.mono hbw5.size)
  have HY := Lib.hid (hY5.below hb6)
  have HZ := Lib.hid (hZ5.below hb6)
  have HB := Lib.hid hbw6
  clear HT3 hb6 hbw5 hX5 hY5 hZ5 hbw6
  go_wp2_with fail
  obtain ⟨N, hN⟩ : ∃ N, N = (bgs T).length := ⟨_, rfl⟩
  rw [← hN] at hbl
  have HNN := Lib.hid hN
  clear hN
  go_loopw [13] (fun i wr => ∃ (k : Nat), i = .int .i64 k ∧ k ≤ N + 1 ∧ Hid (XAt wr w1.heap.size Y T A2 c2) ∧ Hid (XAt wr w2.heap.size Z T A3 c3) ∧ Hid (Below w.heap.size w wr)) (fun i _ => N + 1 - (intOf i).toNat)
  case atStart => exact ⟨0, rfl, Nat.zero_le _, HY, HZ, HB⟩
  case round =>
    clear HY HZ HB
    obtain ⟨k, rfl, hk, HY, HZ, HB⟩ := hrel
    have HC := count_any w2.heap.size Z c3 T A3 wr HZ.out (by omega)
    rw [← HNN.out] at HC
    by_cases hlt : k < N + 1
    · have hlt' : (k : Int) < (N : Int) + 1 := by omega
      have HL1 := line_yes w1.heap.size Y c2 k T A2 wr HY.out (by rw [← HNN.out]; omega) (by omega)
      have HL2 := fun W h => line_yes w2.heap.size Z c3 k T A3 W h (by rw [← HNN.out]; omega) (by omega)
      generalize bgOf T k = b1 at *
      generalize enOf T k = b2 at *
      go_wp2_with fail
      refine HC.mono ?_
      rintro e w7 ⟨rfl, rfl⟩
      go_wp2_with fail
      refine HL1.mono ?_
      rintro e w7 ⟨rfl, hb7⟩
      have hb7' := hb7.alloc hb7.size (.cells #[.int .i64 b1, .int .i64 b2] 38)
      have hZ7 := HZ.out.below hb7'
      have HY7 := Lib.hid (HY.out.below hb7')
      have HB7 := Lib.hid (HB.out.trans (hb7'.mono HB.out.size))
      clear HC HL1 hb7 hb7'
      go_wp2_with fail
      refine (HL2 _ hZ7).mono ?_
      rintro e w8 ⟨rfl, hb8⟩
      have hh7 : w8.heap[w7.heap.size]? = some (.cells #[.int .i64 b1, .int .i64 b2] 38 (0, 0)) := (hb8.block _ (by simp)).trans (World.alloc_heap_new w7 _)
      have d0 : w8.cell? ⟨w7.heap.size, 0, none⟩ = some (.int .i64 b1) := by rw [Lib.cell_of_heap hh7]; rfl
      have d1 : w8.cell? ⟨w7.heap.size, 1, none⟩ = some (.int .i64 b2) := by rw [Lib.cell_of_heap hh7]; rfl
      have hzz : w7.heap.size < w8.heap.size := (Array.getElem?_eq_some_iff.1 hh7).1
      have hb8' := hb8.alloc hb8.size (.cells #[.int .i64 b1, .int .i64 b2] 38)
      have HZ8 := Lib.hid (hZ7.below hb8')
      have HY8 := Lib.hid (HY7.out.below hb8')
      have HB8 := Lib.hid (HB7.out.trans (hb8'.mono HB7.out.size))
      clear HL2 hb8 hb8' hZ7 HY7 HB7 hh7
      go_wp2
      exact ⟨⟨k + 1, by simp, by omega, HY8, HZ8, HB8⟩, by simp [intOf]; omega⟩
    · obtain rfl : k = N + 1 := by omega
      go_wp2_with fail
      refine HC.mono ?_
      rintro e w7 ⟨rfl, rfl⟩
      clear HC
      go_wp2_with fail
      refine (awake_any _).mono ?_
      rintro e w8 ⟨rfl, hb8⟩
      go_wp2
      go_ret
      exact ⟨rfl, HB.out.trans (hb8.mono HB.out.size)⟩

theorem law_updates (s v : ByteArray) (p q : Int) (w : World) (hs0 : s.size ≤ 9223372036854775807) (hv0 : v.size ≤ 9223372036854775807) : Calls Try.prog 4 #[.string s, .int .i64 p, .int .i64 q, .string v] w (Fine w) := by
  by_cases hs : 2000 < s.size ∨ 300 < v.size
  · exact law_updates_long s v p q w hs0 hv0 hs
  by_cases hp : p < 0 ∨ q < p ∨ (s.size : Int) < q
  · exact law_updates_out s v p q w (by omega) (by omega) hp
  · obtain ⟨p', rfl⟩ : ∃ r : Nat, p = r := ⟨p.toNat, by omega⟩
    obtain ⟨q', rfl⟩ : ∃ r : Nat, q = r := ⟨q.toNat, by omega⟩
    exact law_updates_in s v p' q' w (by omega) (by omega) (by omega) (by omega)
end Go.Proofs.Ytifehdoindbkmaa
