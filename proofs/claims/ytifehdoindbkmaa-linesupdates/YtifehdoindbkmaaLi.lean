/- What Update makes. -/
import Derived.Test.YtifehdoindbkmaaLh
namespace Go.Proofs.Ytifehdoindbkmaa
open Go.RowKit Go.Shelf

theorem extract_list (s : ByteArray) (p q : Nat) : (s.extract p q).data.toList = (s.data.toList.drop p).take (q - p) := by
  simp [ByteArray.data_extract]

theorem join3 (s v : ByteArray) (p q : Nat) : (⟨(Lib.join ([s.extract 0 p, v, s.extract q s.size].map (·.data.toList)) (⟨#[]⟩ : ByteArray).data.toList).toArray⟩ : ByteArray) = edT s v p q := by
  unfold edT Lib.join
  have h : (s.data.toList.drop q).take (s.size - q) = s.data.toList.drop q := List.take_of_length_le (by rw [List.length_drop, ← Lib.size_eq]; exact Nat.le_refl _)
  simp [List.intercalate, h]

set_option maxRecDepth 100000 in
set_option maxHeartbeats 2000000 in
theorem update_no (base X c : Nat) (s v : ByteArray) (A : Option Addr) (p q : Int) (w : World) (hX : XAt w base X s A c) (hp : p < 0 ∨ q < p ∨ (s.size : Int) < q) (_hs : s.size ≤ 100000) :
    Calls Try.prog 12 #[.pointer (some ⟨X, 0, none⟩), .int .i64 p, .int .i64 q, .string v] w fun e w' => e = .returned (.tuple #[.pointer none, .int .i64 2]) ∧ w = w' := by
  have c0 := hX.c0
  clear hX
  by_cases h1 : p < 0
  · go_enter Try.func12, Try.ntmps12
    go_wp2
    go_ret2
    exact ⟨rfl, rfl⟩
  by_cases h2 : q < p
  · go_enter Try.func12, Try.ntmps12
    go_wp2
    go_ret2
    exact ⟨rfl, rfl⟩
  have h3 : (s.size : Int) < q := by omega
  clear hp
  go_enter Try.func12, Try.ntmps12
  go_wp2
  go_ret2
  exact ⟨rfl, rfl⟩

set_option maxRecDepth 100000 in
set_option maxHeartbeats 2000000 in
theorem update_yes (base X c p q : Nat) (s v : ByteArray) (A : Option Addr) (w : World) (hX : XAt w base X s A c) (hpq : p ≤ q) (hq : q ≤ s.size) (hs : s.size ≤ 100000) (hv : v.size ≤ 100000) :
    Calls Try.prog 12 #[.pointer (some ⟨X, 0, none⟩), .int .i64 p, .int .i64 q, .string v] w fun e w' => ∃ X' A' c', e = .returned (.tuple #[.pointer (some ⟨X', 0, none⟩), .int .i64 0]) ∧ XAt w' w.heap.size X' (edT s v p q) A' c' ∧ Below w.heap.size w w' := by
  have c0 := hX.c0
  have HX := Lib.hid hX
  have hXl := hX.lt
  clear hX
  have i1 : (p : Int) ≤ (q : Int) := by omega
  have i2 : (q : Int) ≤ (s.size : Int) := by omega
  have i3 : (p : Int) ≤ (s.size : Int) := by omega
  go_enter Try.func12, Try.ntmps12
  go_wp2_with fail
  go_region_held3 (fun w' => w'.cell? ⟨X, 0, none⟩ = some (.string s)) (go_keep) (fail)
  obtain ⟨w0, hw0⟩ : ∃ W, W = (w.alloc (.cells #[.string (s.extract 0 p), .string v, .string (s.extract q s.size)] 9)).drew := ⟨_, rfl⟩
  have hh0 : w0.heap[w.heap.size]? = some (.cells #[.string (s.extract 0 p), .string v, .string (s.extract q s.size)] 9 (0, 0)) := by rw [hw0]; exact World.alloc_heap_new w _
  have hb0 : Below w.heap.size w w0 := by rw [hw0]; exact ((Below.refl _ w).alloc (Nat.le_refl _) _).drew
  have hz0 : w.heap.size < w0.heap.size := (Array.getElem?_eq_some_iff.1 hh0).1
  have hjl := congrArg ByteArray.size (join3 s v p q)
  rw [edT_size s v (by omega) hq] at hjl
  have HJ := Try.strings_Join w.heap.size 0 3 [s.extract 0 p, v, s.extract q s.size] ⟨#[]⟩ w0
    (by
      intro j x hj
      rw [Lib.cell_of_heap hh0]
      match j, hj with
      | 0, hj => simp at hj; subst hj; rfl
      | 1, hj => simp at hj; subst hj; rfl
      | 2, hj => simp at hj; subst hj; rfl
      | n + 3, hj => simp at hj) hz0 (by simp) (by simp) (by rw [ByteArray.size, List.size_toArray] at hjl; omega)
  rw [join3] at HJ
  rename_i hHeld
  rw [← hw0] at hHeld ⊢
  have HH := Lib.hid hHeld; have HB0 := Lib.hid hb0
  clear hHeld hw0 hh0 hb0 hjl c0
  go_wp2_with fail
  refine HJ.mono ?_
  rintro e w1 ⟨rfl, hb1⟩
  have hbw1 : Below w.heap.size w w1 := HB0.out.trans (hb1.mono (by omega))
  have hz1 := hb1.size
  have HM := moved_any base X c p q s v A w1 (HX.out.below hbw1) hpq hq hs hv
  have HB1 := Lib.hid hbw1
  clear HJ hb1 hbw1 HB0 HH
  generalize hT : edT s v p q = T at *
  go_wp2_with fail
  refine HM.mono ?_
  rintro e w2 ⟨A', c', rfl, hr, hb2⟩
  have hbw2 : Below w.heap.size w w2 := HB1.out.trans (hb2.mono (by omega))
  have HR := Lib.hid hr; have HB2 := Lib.hid hbw2
  clear HM hr hb2 hbw2 HB1
  go_wp2
  go_ret2
  rw [hT]
  exact ⟨w2.heap.size, A', c', rfl, ⟨World.alloc_heap_new w2 _, (HR.out.mono (by omega)).alloc _⟩, HB2.out.alloc HB2.out.size _⟩
end Go.Proofs.Ytifehdoindbkmaa
