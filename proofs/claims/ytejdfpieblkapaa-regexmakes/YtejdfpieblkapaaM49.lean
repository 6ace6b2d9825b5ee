/- What RegexMakes says: its mathematics; nodes made of nothing. -/
import Derived.Test.YtejdfpieblkapaaM47
namespace Go.Proofs.Ytejdfpieblkapaa
open Go.RowKit Go.Shelf

set_option maxRecDepth 100000 in
set_option maxHeartbeats 1000000 in
theorem index_yes (g : Nat) (p0 p1 : Option Addr) (w : World) (h0 : w.cell? ⟨g, 0, none⟩ = some (.pointer p0)) (h1 : w.cell? ⟨g, 1, none⟩ = some (.pointer p1)) (hn : p0 = none ∨ p1 = none) :
    Calls Try.prog 67 #[.slice (some ⟨g, 0, none⟩) 2 2, .pointer none] w fun e w' => ∃ k : Nat, k ≤ 1 ∧ e = .returned (.int .i64 k) ∧ w' = w := by
  have heq : ∀ (a : Addr) (w' : World), (binOp .eql 23 (.pointer none) (.pointer (some a))).run Try.prog w' = .ok (.bool false) w' := fun a w' => eql_nil_left w' a
  go_enter Try.func67, Try.ntmps67
  go_wp2_with fail
  go_loopw [8] (fun i wr => ∃ k : Nat, (k = 0 ∨ k = 1 ∧ p0 ≠ none) ∧ i = .int .i64 k ∧ wr = w) (fun i _ => 2 - (intOf i).toNat)
  case atStart => exact ⟨0, .inl rfl, rfl, rfl⟩
  case round =>
    obtain ⟨k, hk, rfl, rfl⟩ := hrel
    rcases hk with rfl | ⟨rfl, hk⟩
    · cases p0 with
      | none =>
        go_wp2
        go_ret
        exact ⟨0, by omega, rfl, rfl⟩
      | some a =>
        have heq' := heq a wr
        go_wp2
        go_roundw
        case rel => exact ⟨1, .inr ⟨rfl, by simp⟩, by go_num, by first | rfl | trivial⟩
        case measure => simp [intOf]
    · obtain rfl : p1 = none := by
        rcases hn with h | h
        · exact absurd h hk
        · exact h
      go_wp2
      go_ret
      exact ⟨1, by omega, rfl, rfl⟩
theorem contains_yes (g : Nat) (p0 p1 : Option Addr) (w : World) (h0 : w.cell? ⟨g, 0, none⟩ = some (.pointer p0)) (h1 : w.cell? ⟨g, 1, none⟩ = some (.pointer p1)) (hn : p0 = none ∨ p1 = none) :
    Calls Try.prog 53 #[.slice (some ⟨g, 0, none⟩) 2 2, .pointer none] w fun e w' => e = .returned (.bool true) ∧ w' = w := by
  have HI := Lib.hid (index_yes g p0 p1 w h0 h1 hn)
  clear h0 h1 hn
  go_enter Try.func53, Try.ntmps53
  go_wp2_with fail
  refine HI.out.mono ?_
  rintro e w' ⟨k, hk, rfl, rfl⟩
  have hk0 : (0 : Int) ≤ (k : Int) := by omega
  go_wp2
  go_ret
  exact ⟨rfl, rfl⟩
theorem nested_nil (jf g : Nat) (v0 : Value) (p0 p1 : Option Addr) (w : World) (h0 : w.cell? ⟨g, 0, none⟩ = some (.pointer p0)) (h1 : w.cell? ⟨g, 1, none⟩ = some (.pointer p1)) (hn : p0 = none ∨ p1 = none) :
    Calls Try.prog 31 #[.slice (some ⟨g, 0, none⟩) 2 2, v0, .func (.func jf) #[] #[]] w (Ans (.pointer none) w) := by
  have hb : Below w.heap.size w (w.alloc (.cells #[.func (.func jf) #[] #[]] 81)) := (Below.refl _ w).alloc (Nat.le_refl _) _
  have hg : g < w.heap.size := lt_of_cell' h0
  have HC := Lib.hid (contains_yes g p0 p1 _ ((hb.cell (p := ⟨g, 0, none⟩) hg).trans h0) ((hb.cell (p := ⟨g, 1, none⟩) hg).trans h1) hn)
  have HB := Lib.hid hb
  clear h0 h1 hb
  go_enter Try.func31, Try.ntmps31
  go_wp2_with fail
  refine HC.out.mono ?_
  rintro e w1 ⟨rfl, rfl⟩
  go_wp2
  go_ret
  exact ⟨rfl, HB.out⟩
set_option maxHeartbeats 1000000 in
theorem cat_nil (g : Nat) (p0 p1 : Option Addr) (w : World) (h0 : w.cell? ⟨g, 0, none⟩ = some (.pointer p0)) (h1 : w.cell? ⟨g, 1, none⟩ = some (.pointer p1)) (hn : p0 = none ∨ p1 = none) :
    Calls Try.prog 13 #[.slice (some ⟨g, 0, none⟩) 2 2] w (Ans (.pointer none) w) := by
  have hg : g < w.heap.size := lt_of_cell' h0
  have H0 := Lib.hid h0; have H1 := Lib.hid h1
  clear h0 h1
  go_enter Try.func13, Try.ntmps13
  go_wp2_with fail
  refine (empty_any w).mono ?_
  rintro e w1 ⟨nb, rfl, h2, h3⟩
  have HC := Lib.hid (nested_nil 32 g (ptr nb) p0 p1 w1 ((h3.cell (p := ⟨g, 0, none⟩) hg).trans H0.out) ((h3.cell (p := ⟨g, 1, none⟩) hg).trans H1.out) hn)
  have HB := Lib.hid h3
  clear h2 h3
  go_wp2_with fail
  refine HC.out.mono ?_
  rintro e w2 ⟨rfl, h3⟩
  have HF := Lib.hid (below_tr HB.out h3 HB.out.size)
  clear h3
  go_wp2
  go_ret
  exact ⟨rfl, HF.out⟩
set_option maxHeartbeats 1000000 in
theorem or_nil (g : Nat) (p0 p1 : Option Addr) (w : World) (h0 : w.cell? ⟨g, 0, none⟩ = some (.pointer p0)) (h1 : w.cell? ⟨g, 1, none⟩ = some (.pointer p1)) (hn : p0 = none ∨ p1 = none) :
    Calls Try.prog 14 #[.slice (some ⟨g, 0, none⟩) 2 2] w (Ans (.pointer none) w) := by
  have hg : g < w.heap.size := lt_of_cell' h0
  have H0 := Lib.hid h0; have H1 := Lib.hid h1
  clear h0 h1
  go_enter Try.func14, Try.ntmps14
  go_wp2_with fail
  refine (set_any ⟨0, 0, 0, 0⟩ w).mono ?_
  rintro e w1 ⟨nb, rfl, h2, h3⟩
  have HC := Lib.hid (nested_nil 34 g (ptr nb) p0 p1 w1 ((h3.cell (p := ⟨g, 0, none⟩) hg).trans H0.out) ((h3.cell (p := ⟨g, 1, none⟩) hg).trans H1.out) hn)
  have HB := Lib.hid h3
  clear h2 h3
  go_wp2_with fail
  refine HC.out.mono ?_
  rintro e w2 ⟨rfl, h3⟩
  have HF := Lib.hid (below_tr HB.out h3 HB.out.size)
  clear h3
  go_wp2
  go_ret
  exact ⟨rfl, HF.out⟩

/-- Some cut of a text, among the first k. -/
def catB (a b : Rx) (T : List UInt8) (k : Nat) : Bool := (List.range k).any fun i => a.mt (T.take i) && b.mt (T.drop i)
def starB (a : Rx) (T : List UInt8) (k : Nat) : Bool := decide (T = []) || (List.range k).any fun i => decide (0 < i) && (a.mt (T.take i) && (Rx.star a).mt (T.drop i))
theorem catB_succ (a b : Rx) (T : List UInt8) (k : Nat) : catB a b T (k + 1) = (catB a b T k || (a.mt (T.take k) && b.mt (T.drop k))) := by
  unfold catB; rw [List.range_succ, List.any_append]; simp
theorem starB_succ (a : Rx) (T : List UInt8) (k : Nat) : starB a T (k + 1) = (starB a T k || (decide (0 < k) && (a.mt (T.take k) && (Rx.star a).mt (T.drop k)))) := by
  unfold starB; rw [List.range_succ, List.any_append]; simp [Bool.or_assoc]
theorem catB_all (a b : Rx) (T : List UInt8) : catB a b T (T.length + 1) = (Rx.cat a b).mt T := by
  rw [Bool.eq_iff_iff, Rx.mt_iff]
  unfold catB
  rw [List.any_eq_true]
  constructor
  · rintro ⟨i, _, h⟩
    rw [Bool.and_eq_true, Rx.mt_iff, Rx.mt_iff] at h
    exact ⟨T.take i, T.drop i, (List.take_append_drop i T).symm, h.1, h.2⟩
  · rintro ⟨x, y, rfl, h1, h2⟩
    refine ⟨x.length, by rw [List.mem_range, List.length_append]; omega, ?_⟩
    rw [Bool.and_eq_true, Rx.mt_iff, Rx.mt_iff]
    simpa using ⟨h1, h2⟩
theorem starB_all (a : Rx) (T : List UInt8) : starB a T (T.length + 1) = (Rx.star a).mt T := by
  rw [Bool.eq_iff_iff, Rx.mt_iff]
  unfold starB
  rw [Bool.or_eq_true, List.any_eq_true, decide_eq_true_iff]
  show _ ↔ Many a.L T
  constructor
  · rintro (h | ⟨i, _, h⟩)
    · rw [h]; exact Many.nil
    · rw [Bool.and_eq_true, Bool.and_eq_true, Rx.mt_iff, Rx.mt_iff] at h
      have h2 : Many a.L (T.drop i) := h.2.2
      have := Many.cons _ _ h.2.1 h2
      rwa [List.take_append_drop] at this
  · intro h
    cases T with
    | nil => exact .inl rfl
    | cons c u =>
      obtain ⟨x, y, rfl, h1, h2⟩ := many_cons.1 h
      refine .inr ⟨x.length + 1, by rw [List.mem_range]; simp; omega, ?_⟩
      rw [Bool.and_eq_true, Bool.and_eq_true, Rx.mt_iff, Rx.mt_iff]
      refine ⟨by simp, by simpa using h1, ?_⟩
      show Many a.L _
      simpa using h2
theorem mt_or (a b : Rx) (T : List UInt8) : (Rx.or a b).mt T = (a.mt T || b.mt T) := by
  rw [Bool.eq_iff_iff, Rx.mt_iff, Bool.or_eq_true, Rx.mt_iff, Rx.mt_iff]; exact Iff.rfl
theorem ext_take (t : ByteArray) (i : Nat) : (t.extract 0 i).data.toList = t.data.toList.take i := by
  rw [ByteArray.data_extract, Array.toList_extract]; simp
theorem ext_drop (t : ByteArray) (i : Nat) : (t.extract i t.size).data.toList = t.data.toList.drop i := by
  rw [ByteArray.data_extract, Array.toList_extract]
  simp only [List.extract_eq_take_drop]
  rw [List.take_of_length_le]
  rw [List.length_drop, Lib.size_eq]
  exact Nat.le_refl _
end Go.Proofs.Ytejdfpieblkapaa
