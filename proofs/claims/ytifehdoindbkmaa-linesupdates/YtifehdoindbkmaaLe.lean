/- What Place, Line and Offset of an index answer. -/
import Derived.Test.YtifehdoindbkmaaLd
namespace Go.Proofs.Ytifehdoindbkmaa
open Go.RowKit Go.Shelf

theorem bgOf_bd (s : ByteArray) (n : Nat) : 0 ≤ bgOf s n ∧ bgOf s n ≤ s.size := by
  unfold bgOf
  split
  · omega
  · cases h : (bgs s)[n - 1]? with
    | none => simp
    | some z => have := bgs_mem h; simp; omega
theorem enOf_bd (s : ByteArray) (n : Nat) : -1 ≤ enOf s n ∧ enOf s n ≤ s.size := by
  unfold enOf
  split
  · omega
  · cases h : (bgs s)[n]? with
    | none => simp
    | some z => have := bgs_mem h; simp; omega
theorem bg_le {s : ByteArray} {p : Nat} (h : p ≤ s.size) : bgOf s (lnOf s p) ≤ p := by
  unfold bgOf
  split
  · omega
  · have hl := lnOf_le s h
    obtain ⟨z, hz⟩ : ∃ z, (bgs s)[lnOf s p - 1]? = some z := ⟨_, List.getElem?_eq_getElem (by omega)⟩
    rw [hz]
    exact bgs_lo h (by omega) hz
theorem le_en {s : ByteArray} {p : Nat} (h : p ≤ s.size) : (p : Int) ≤ enOf s (lnOf s p) := by
  unfold enOf
  split
  · omega
  · have hl := lnOf_le s h
    obtain ⟨z, hz⟩ : ∃ z, (bgs s)[lnOf s p]? = some z := ⟨_, List.getElem?_eq_getElem (by omega)⟩
    rw [hz]
    have := bgs_hi h (Nat.le_refl _) hz
    simp; omega

set_option maxRecDepth 100000 in
set_option maxHeartbeats 2000000 in
theorem place_no (base X c : Nat) (s : ByteArray) (A : Option Addr) (p : Int) (w : World) (hX : XAt w base X s A c) (hp : p < 0 ∨ (s.size : Int) < p) (hs : s.size ≤ 1000000) :
    Calls Try.prog 8 #[.pointer (some ⟨X, 0, none⟩), .int .i64 p] w fun e w' => e = .returned (.tuple #[.int .i64 0, .int .i64 0, .int .i64 2]) ∧ w = w' := by
  have c0 := hX.c0
  clear hX
  rcases hp with hp | hp
  · go_enter Try.func8, Try.ntmps8
    go_wp2
    go_ret3
    exact ⟨rfl, rfl⟩
  · have h0 : 0 ≤ p := by omega
    go_enter Try.func8, Try.ntmps8
    go_wp2
    go_ret3
    exact ⟨rfl, rfl⟩

set_option maxRecDepth 100000 in
set_option maxHeartbeats 2000000 in
theorem place_yes (base X c p : Nat) (s : ByteArray) (A : Option Addr) (w : World) (hX : XAt w base X s A c) (hp : p ≤ s.size) (hs : s.size ≤ 1000000) :
    Calls Try.prog 8 #[.pointer (some ⟨X, 0, none⟩), .int .i64 p] w fun e w' => e = .returned (.tuple #[.int .i64 (lnOf s p), .int .i64 ((p : Int) - bgOf s (lnOf s p)), .int .i64 0]) ∧ Below w.heap.size w w' := by
  have c0 := hX.c0
  have HL := lineAt_any base X c p s A w hX hp hs
  have hl := lnOf_le s hp
  have hbd := bgOf_bd s (lnOf s p)
  obtain ⟨m, hm⟩ : ∃ m, m = lnOf s p := ⟨_, rfl⟩
  rw [← hm] at HL hl hbd ⊢
  clear hm
  obtain ⟨b, hb⟩ : ∃ b, b = bgOf s m := ⟨_, rfl⟩
  rw [← hb] at hbd ⊢
  have HB := Lib.hid hb; clear hb
  obtain ⟨hb1, hb2⟩ := hbd
  go_enter Try.func8, Try.ntmps8
  go_wp2_with fail
  refine HL.mono ?_
  rintro e w1 ⟨rfl, hbw⟩
  have HG := begin_any base X c m s A w1 (hX.below hbw) hl hs
  rw [← HB.out] at HG
  clear HL
  go_wp2_with fail
  refine HG.mono ?_
  rintro e w2 ⟨rfl, rfl⟩
  clear HG
  go_wp2
  go_ret3
  exact ⟨rfl, hbw⟩

set_option maxRecDepth 100000 in
set_option maxHeartbeats 2000000 in
theorem line_no (base X c : Nat) (s : ByteArray) (A : Option Addr) (n : Int) (w : World) (hX : XAt w base X s A c) (hn : n < 0 ∨ ((bgs s).length : Int) < n) (hs : s.size ≤ 1000000) :
    Calls Try.prog 13 #[.pointer (some ⟨X, 0, none⟩), .int .i64 n] w fun e w' => e = .returned (.tuple #[.agg #[.int .i64 0, .int .i64 0], .int .i64 2]) ∧ Below w.heap.size w w' := by
  rcases hn with hn | hn
  · clear hX
    go_enter Try.func13, Try.ntmps13
    go_wp2
    exact bodyPost_ret (v := .tuple #[.agg #[.int .i64 0, .int .i64 0], .int .i64 2]) (by simp [results, Try.results13, go_sem]) rfl ⟨rfl, (Below.refl _ _).alloc (Nat.le_refl _) _⟩
  · have h0 : ¬ n < 0 := by omega
    have HC := fun o => count_any base X c s A (w.alloc o) (hX.below ((Below.refl _ w).alloc (Nat.le_refl _) o)) hs
    clear hX
    have hle : ((bgs s).length : Int) + 1 ≤ n := by omega
    go_enter Try.func13, Try.ntmps13
    go_wp2_with fail
    refine (HC _).mono ?_
    rintro e w1 ⟨rfl, rfl⟩
    clear HC
    go_wp2
    exact bodyPost_ret (v := .tuple #[.agg #[.int .i64 0, .int .i64 0], .int .i64 2]) (by simp [results, Try.results13, go_sem]) rfl ⟨rfl, (Below.refl _ _).alloc (Nat.le_refl _) _⟩

set_option maxRecDepth 100000 in
set_option maxHeartbeats 2000000 in
theorem line_yes (base X c n : Nat) (s : ByteArray) (A : Option Addr) (w : World) (hX : XAt w base X s A c) (hn : n ≤ (bgs s).length) (hs : s.size ≤ 1000000) :
    Calls Try.prog 13 #[.pointer (some ⟨X, 0, none⟩), .int .i64 n] w fun e w' => e = .returned (.tuple #[.agg #[.int .i64 (bgOf s n), .int .i64 (enOf s n)], .int .i64 0]) ∧ Below w.heap.size w w' := by
  have HC := fun o => count_any base X c s A (w.alloc o) (hX.below ((Below.refl _ w).alloc (Nat.le_refl _) o)) hs
  have HG := fun o => begin_any base X c n s A (w.alloc o) (hX.below ((Below.refl _ w).alloc (Nat.le_refl _) o)) hn hs
  have HE := fun o => end_any base X c n s A (w.alloc o) (hX.below ((Below.refl _ w).alloc (Nat.le_refl _) o)) hn hs
  clear hX
  have hlt : (n : Int) < ((bgs s).length : Int) + 1 := by omega
  go_enter Try.func13, Try.ntmps13
  go_wp2_with fail
  refine (HC _).mono ?_
  rintro e w1 ⟨rfl, rfl⟩
  go_wp2_with fail
  refine (HG _).mono ?_
  rintro e w1 ⟨rfl, rfl⟩
  go_wp2_with fail
  refine (HE _).mono ?_
  rintro e w1 ⟨rfl, rfl⟩
  clear HC HG HE
  go_wp2
  exact bodyPost_ret (v := .tuple #[.agg #[.int .i64 (bgOf s n), .int .i64 (enOf s n)], .int .i64 0]) (by simp [results, Try.results13, go_sem]) rfl ⟨rfl, (Below.refl _ _).alloc (Nat.le_refl _) _⟩

set_option maxRecDepth 100000 in
set_option maxHeartbeats 2000000 in
theorem offset_none (base X c : Nat) (s : ByteArray) (A : Option Addr) (n k : Int) (w : World) (hX : XAt w base X s A c) (hn : n < 0 ∨ ((bgs s).length : Int) < n) (hs : s.size ≤ 1000000) :
    Calls Try.prog 11 #[.pointer (some ⟨X, 0, none⟩), .int .i64 n, .int .i64 k] w fun e w' => e = .returned (.tuple #[.int .i64 0, .int .i64 2]) ∧ Below w.heap.size w w' := by
  have HC := line_no base X c s A n w hX hn hs
  clear hX hn
  go_enter Try.func11, Try.ntmps11
  go_wp2_with fail
  refine HC.mono ?_
  rintro e w1 ⟨rfl, hb⟩
  clear HC
  go_wp2
  go_ret2
  exact ⟨rfl, hb.alloc hb.size _⟩

set_option maxRecDepth 100000 in
set_option maxHeartbeats 2000000 in
theorem offset_no (base X c n : Nat) (s : ByteArray) (A : Option Addr) (k : Int) (w : World) (hX : XAt w base X s A c) (hn : n ≤ (bgs s).length) (hk : k < 0 ∨ enOf s n - bgOf s n < k) (hs : s.size ≤ 1000000) :
    Calls Try.prog 11 #[.pointer (some ⟨X, 0, none⟩), .int .i64 n, .int .i64 k] w fun e w' => e = .returned (.tuple #[.int .i64 0, .int .i64 2]) ∧ Below w.heap.size w w' := by
  have HC := line_yes base X c n s A w hX hn hs
  clear hX hn
  obtain ⟨b1, b2⟩ := bgOf_bd s n
  obtain ⟨b3, b4⟩ := enOf_bd s n
  generalize bgOf s n = b at *
  generalize enOf s n = t at *
  rcases hk with hk | hk
  · go_enter Try.func11, Try.ntmps11
    go_wp2_with fail
    refine HC.mono ?_
    rintro e w1 ⟨rfl, hb⟩
    clear HC
    go_wp2
    go_ret2
    exact ⟨rfl, hb.alloc hb.size _⟩
  · by_cases hk0 : k < 0
    · go_enter Try.func11, Try.ntmps11
      go_wp2_with fail
      refine HC.mono ?_
      rintro e w1 ⟨rfl, hb⟩
      clear HC
      go_wp2
      go_ret2
      exact ⟨rfl, hb.alloc hb.size _⟩
    · go_enter Try.func11, Try.ntmps11
      go_wp2_with fail
      refine HC.mono ?_
      rintro e w1 ⟨rfl, hb⟩
      clear HC
      go_wp2
      go_ret2
      exact ⟨rfl, hb.alloc hb.size _⟩

set_option maxRecDepth 100000 in
set_option maxHeartbeats 2000000 in
theorem offset_yes (base X c n : Nat) (s : ByteArray) (A : Option Addr) (k : Int) (w : World) (hX : XAt w base X s A c) (hn : n ≤ (bgs s).length) (hk0 : 0 ≤ k) (hk1 : k ≤ enOf s n - bgOf s n) (hs : s.size ≤ 1000000) :
    Calls Try.prog 11 #[.pointer (some ⟨X, 0, none⟩), .int .i64 n, .int .i64 k] w fun e w' => e = .returned (.tuple #[.int .i64 (bgOf s n + k), .int .i64 0]) ∧ Below w.heap.size w w' := by
  have HC := line_yes base X c n s A w hX hn hs
  clear hX hn
  obtain ⟨b1, b2⟩ := bgOf_bd s n
  obtain ⟨b3, b4⟩ := enOf_bd s n
  generalize bgOf s n = b at *
  generalize enOf s n = t at *
  go_enter Try.func11, Try.ntmps11
  go_wp2_with fail
  refine HC.mono ?_
  rintro e w1 ⟨rfl, hb⟩
  clear HC
  go_wp2
  go_ret2
  exact ⟨rfl, hb.alloc hb.size _⟩

set_option maxRecDepth 100000 in
set_option maxHeartbeats 2000000 in
theorem awake_any (w : World) : Calls Try.prog 5 #[] w fun e w' => e = .returned (.bool true) ∧ Below w.heap.size w w' := by
  obtain ⟨S, hS⟩ : ∃ S : ByteArray, S = ⟨#[97, 98, 10, 99]⟩ := ⟨_, rfl⟩
  have hb1 : (bgs S).length = 1 := by rw [hS]; decide
  have hl : lnOf S 3 = 1 := by rw [hS]; decide
  have hg : bgOf S 1 = 3 := by rw [hS]; decide
  have hsz : S.size = 4 := by rw [hS]; rfl
  have HN := new_any S w (by omega)
  rw [hS] at HN
  go_enter Try.func5, Try.ntmps5
  go_wp2_with fail
  refine HN.mono ?_
  rw [← hS]
  rintro e w1 ⟨X, A, c, rfl, hX, hb⟩
  have HP := place_yes w.heap.size X c 3 S A w1 hX (by omega) (by omega)
  rw [hl, hg] at HP
  clear HN
  have HS := Lib.hid hS; clear hS
  go_wp2_with fail
  refine HP.mono ?_
  rintro e w2 ⟨rfl, hb2⟩
  have hb3 := hb.trans (hb2.mono hb.size)
  have HC := count_any w.heap.size X c S A w2 (hX.below hb2) (by omega)
  rw [hb1] at HC
  clear HP hb2
  go_wp2_with fail
  refine HC.mono ?_
  rintro e w4 ⟨rfl, rfl⟩
  clear HC
  go_wp2
  go_ret
  exact ⟨rfl, hb3⟩
end Go.Proofs.Ytifehdoindbkmaa
