/- Slice and Splice of no buffer; the law BufNone. -/
import Derived.Test.YtpifobaejmfppaaN1
namespace Go.Proofs.Ytpifobaejmfppaa
open Go.RowKit

theorem eds_new1 (f t : Int) (s : ByteArray) (w : World) : EdsAt (w.alloc (.cells #[.int .i64 f, .int .i64 t, .string s] 35)) (w.alloc (.cells #[.int .i64 f, .int .i64 t, .string s] 35)).heap.size (some ⟨w.heap.size, 0, none⟩) [⟨f, t, s⟩] := by
  intro i e he
  have hi : i = 0 := by
    have := (List.getElem?_eq_some_iff.1 he).1
    simp at this; omega
  subst hi
  simp at he
  subst he
  have hk := heap_alloc_new w (.cells #[.int .i64 f, .int .i64 t, .string s] 35)
  refine ⟨⟨w.heap.size, 0, none⟩, rfl, by simp, ?_⟩
  rw [add_none, Nat.zero_mul]
  exact ⟨cell0_of hk, cell1_of hk, cell2_of hk⟩

set_option maxHeartbeats 1000000 in
theorem splice_nil (f t : Int) (s : ByteArray) (w : World) : Calls Try.prog 29 #[.pointer none, .int .i64 f, .int .i64 t, .string s] w fun e w' => e = .returned (.int .i64 1) ∧ Below w.heap.size w w' := by
  go_enter Try.func29, Try.ntmps29
  go_wp2_with fail
  refine (bapply_nil _ _).mono ?_
  rintro e w1 ⟨rfl, hb1⟩
  have hb0 := (Below.refl w.heap.size w).alloc (Nat.le_refl _) (.cells #[.int .i64 f, .int .i64 t, .string s] 35)
  have hb1' := below_tr hb0 hb1 hb0.size
  go_wp2
  go_ret
  exact ⟨rfl, hb1'⟩

set_option maxHeartbeats 1000000 in
theorem slice_nil (f t : Int) (w : World) : Calls Try.prog 38 #[.pointer none, .int .i64 f, .int .i64 t] w fun e w' => e = .returned (.tuple #[.string ⟨#[]⟩, .int .i64 (if f = 0 ∧ t = 0 then 0 else 2)]) ∧ Below w.heap.size w w' := by
  by_cases h : f = 0 ∧ t = 0
  · have HR := Lib.hid (show rightB 0 0 [(⟨f, t, ⟨#[]⟩⟩ : Ed)] = true by rw [rightB_cons, Bool.and_eq_true, Ed.okB_iff]; exact ⟨⟨by simp; omega, by simp; omega, by simp; omega⟩, rfl⟩)
    rw [if_pos h]
    clear h
    go_enter Try.func38, Try.ntmps38
    go_wp2_with fail
    refine (len_nil _).mono ?_
    rintro e w1 ⟨rfl, hb1⟩
    have hb0 := hb1.alloc hb1.size (.cells #[.int .i64 f, .int .i64 t, .string ⟨#[]⟩] 35)
    go_wp2_with fail
    refine (right_any 0 (some ⟨w1.heap.size, 0, none⟩) 1 1 [⟨f, t, ⟨#[]⟩⟩] _ rfl (Nat.le_refl _) (by omega) (eds_new1 f t ⟨#[]⟩ w1)).mono ?_
    rintro e w2 ⟨rfl, hb2⟩
    rw [HR.out]
    have hb2' := below_tr hb0 hb2 hb0.size
    go_wp2
    go_ret2
    exact ⟨rfl, hb2'⟩
  · have HR := Lib.hid (show rightB 0 0 [(⟨f, t, ⟨#[]⟩⟩ : Ed)] = false by
      cases hr : rightB 0 0 [(⟨f, t, ⟨#[]⟩⟩ : Ed)] with
      | false => rfl
      | true =>
        rw [rightB_cons, Bool.and_eq_true, Ed.okB_iff] at hr
        obtain ⟨⟨a1, a2, a3⟩, _⟩ := hr
        simp at a1 a2 a3
        exact absurd ⟨by omega, by omega⟩ h)
    rw [if_neg h]
    clear h
    go_enter Try.func38, Try.ntmps38
    go_wp2_with fail
    refine (len_nil _).mono ?_
    rintro e w1 ⟨rfl, hb1⟩
    have hb0 := hb1.alloc hb1.size (.cells #[.int .i64 f, .int .i64 t, .string ⟨#[]⟩] 35)
    go_wp2_with fail
    refine (right_any 0 (some ⟨w1.heap.size, 0, none⟩) 1 1 [⟨f, t, ⟨#[]⟩⟩] _ rfl (Nat.le_refl _) (by omega) (eds_new1 f t ⟨#[]⟩ w1)).mono ?_
    rintro e w2 ⟨rfl, hb2⟩
    rw [HR.out]
    have hb2' := below_tr hb0 hb2 hb0.size
    go_wp2
    go_ret2
    exact ⟨rfl, hb2'⟩

set_option maxRecDepth 100000 in
set_option maxHeartbeats 2000000 in
/-- The law BufNone, once the document's example is known to answer true. -/
theorem law_none_of (haw : ∀ w, Calls Try.prog 27 #[] w (Fine w)) (f t : Int) (s : ByteArray) (w : World) : Calls Try.prog 11 #[.int .i64 f, .int .i64 t, .string s] w (Fine w) := by
  have HAW := Lib.hid haw; clear haw
  by_cases h3 : 100 < s.size
  · go_enter Try.func11, Try.ntmps11
    go_wp2_with fail
    refine (HAW.out _).mono ?_
    rintro e w1 ⟨rfl, hb⟩
    go_wp2
    go_ret
    exact ⟨rfl, hb⟩
  · have g3 : decide (100 < (s.size : Int)) = false := by simp; omega
    have HSL := Lib.hid (slice_nil f t)
    by_cases hf : f = 0
    · subst hf
      by_cases ht : t = 0
      · subst ht
        have HSL' := Lib.hid (show ∀ w, Calls Try.prog 38 #[.pointer none, .int .i64 0, .int .i64 0] w fun e w' => e = .returned (.tuple #[.string ⟨#[]⟩, .int .i64 0]) ∧ Below w.heap.size w w' from fun w => by have := HSL.out w; rwa [if_pos (by simp)] at this)
        clear HSL
        go_enter Try.func11, Try.ntmps11
        go_wp2_with fail
        refine (HSL'.out _).mono ?_
        rintro e w1 ⟨rfl, hb1⟩
        go_wp2_with fail
        refine (at_nil 0 _).mono ?_
        rintro e w2 ⟨rfl, hb2⟩
        have hb2' := below_tr hb1 hb2 hb1.size
        clear hb1 hb2
        go_wp2_with fail
        refine (undo_nil _).mono ?_
        rintro e w3 ⟨rfl, hb3⟩
        have hb3' := below_tr hb2' hb3 hb2'.size
        clear hb2' hb3
        go_wp2_with fail
        refine (redo_nil _).mono ?_
        rintro e w4 ⟨rfl, hb4⟩
        have hb4' := below_tr hb3' hb4 hb3'.size
        clear hb3' hb4
        go_wp2_with fail
        refine (splice_nil 0 0 s _).mono ?_
        rintro e w5 ⟨rfl, hb5⟩
        have hb5' := below_tr hb4' hb5 hb4'.size
        clear hb4' hb5
        go_wp2_with fail
        refine (bapply_nil _ _).mono ?_
        rintro e w6 ⟨rfl, hb6⟩
        have hb6' := below_tr hb5' hb6 hb5'.size
        clear hb5' hb6
        go_wp2_with fail
        refine (len_nil _).mono ?_
        rintro e w7 ⟨rfl, hb7⟩
        have hb7' := below_tr hb6' hb7 hb6'.size
        clear hb6' hb7
        go_wp2_with fail
        refine (text_nil _).mono ?_
        rintro e w8 ⟨rfl, hb8⟩
        have hb8' := below_tr hb7' hb8 hb7'.size
        clear hb7' hb8
        go_wp2_with fail
        refine (past_nil _).mono ?_
        rintro e w9 ⟨rfl, hb9⟩
        have hb9' := below_tr hb8' hb9 hb8'.size
        clear hb8' hb9
        go_wp2_with fail
        refine (future_nil _).mono ?_
        rintro e w10 ⟨rfl, hb10⟩
        have hb10' := below_tr hb9' hb10 hb9'.size
        clear hb9' hb10
        go_wp2_with fail
        refine (pieces_nil _).mono ?_
        rintro e w11 ⟨rfl, hb11⟩
        have hb11' := below_tr hb10' hb11 hb10'.size
        clear hb10' hb11
        go_wp2_with fail
        refine (HAW.out _).mono ?_
        rintro e w12 ⟨rfl, hb12⟩
        have hb12' := below_tr hb11' hb12 hb11'.size
        clear hb11' hb12
        go_wp2
        go_ret
        exact ⟨rfl, hb12'⟩
      · have HSL' := Lib.hid (show ∀ w, Calls Try.prog 38 #[.pointer none, .int .i64 0, .int .i64 t] w fun e w' => e = .returned (.tuple #[.string ⟨#[]⟩, .int .i64 2]) ∧ Below w.heap.size w w' from fun w => by have := HSL.out w; rwa [if_neg (by simp [*])] at this)
        clear HSL
        have q1 : (t == 0) = false := by rw [beq_eq_false_iff_ne]; exact ht
        go_enter Try.func11, Try.ntmps11
        go_wp2_with fail
        refine (HSL'.out _).mono ?_
        rintro e w1 ⟨rfl, hb1⟩
        go_wp2_with fail
        refine (at_nil 0 _).mono ?_
        rintro e w2 ⟨rfl, hb2⟩
        have hb2' := below_tr hb1 hb2 hb1.size
        clear hb1 hb2
        go_wp2_with fail
        refine (undo_nil _).mono ?_
        rintro e w3 ⟨rfl, hb3⟩
        have hb3' := below_tr hb2' hb3 hb2'.size
        clear hb2' hb3
        go_wp2_with fail
        refine (redo_nil _).mono ?_
        rintro e w4 ⟨rfl, hb4⟩
        have hb4' := below_tr hb3' hb4 hb3'.size
        clear hb3' hb4
        go_wp2_with fail
        refine (splice_nil 0 t s _).mono ?_
        rintro e w5 ⟨rfl, hb5⟩
        have hb5' := below_tr hb4' hb5 hb4'.size
        clear hb4' hb5
        go_wp2_with fail
        refine (bapply_nil _ _).mono ?_
        rintro e w6 ⟨rfl, hb6⟩
        have hb6' := below_tr hb5' hb6 hb5'.size
        clear hb5' hb6
        go_wp2_with fail
        refine (len_nil _).mono ?_
        rintro e w7 ⟨rfl, hb7⟩
        have hb7' := below_tr hb6' hb7 hb6'.size
        clear hb6' hb7
        go_wp2_with fail
        refine (text_nil _).mono ?_
        rintro e w8 ⟨rfl, hb8⟩
        have hb8' := below_tr hb7' hb8 hb7'.size
        clear hb7' hb8
        go_wp2_with fail
        refine (past_nil _).mono ?_
        rintro e w9 ⟨rfl, hb9⟩
        have hb9' := below_tr hb8' hb9 hb8'.size
        clear hb8' hb9
        go_wp2_with fail
        refine (future_nil _).mono ?_
        rintro e w10 ⟨rfl, hb10⟩
        have hb10' := below_tr hb9' hb10 hb9'.size
        clear hb9' hb10
        go_wp2_with fail
        refine (pieces_nil _).mono ?_
        rintro e w11 ⟨rfl, hb11⟩
        have hb11' := below_tr hb10' hb11 hb10'.size
        clear hb10' hb11
        go_wp2_with fail
        refine (HAW.out _).mono ?_
        rintro e w12 ⟨rfl, hb12⟩
        have hb12' := below_tr hb11' hb12 hb11'.size
        clear hb11' hb12
        go_wp2
        go_ret
        exact ⟨rfl, hb12'⟩
    · have HSL' := Lib.hid (show ∀ w, Calls Try.prog 38 #[.pointer none, .int .i64 f, .int .i64 t] w fun e w' => e = .returned (.tuple #[.string ⟨#[]⟩, .int .i64 2]) ∧ Below w.heap.size w w' from fun w => by have := HSL.out w; rwa [if_neg (by simp [*])] at this)
      clear HSL
      have q1 : (f == 0) = false := by rw [beq_eq_false_iff_ne]; exact hf
      go_enter Try.func11, Try.ntmps11
      go_wp2_with fail
      refine (HSL'.out _).mono ?_
      rintro e w1 ⟨rfl, hb1⟩
      go_wp2_with fail
      refine (at_nil f _).mono ?_
      rintro e w2 ⟨rfl, hb2⟩
      have hb2' := below_tr hb1 hb2 hb1.size
      clear hb1 hb2
      go_wp2_with fail
      refine (undo_nil _).mono ?_
      rintro e w3 ⟨rfl, hb3⟩
      have hb3' := below_tr hb2' hb3 hb2'.size
      clear hb2' hb3
      go_wp2_with fail
      refine (redo_nil _).mono ?_
      rintro e w4 ⟨rfl, hb4⟩
      have hb4' := below_tr hb3' hb4 hb3'.size
      clear hb3' hb4
      go_wp2_with fail
      refine (splice_nil f t s _).mono ?_
      rintro e w5 ⟨rfl, hb5⟩
      have hb5' := below_tr hb4' hb5 hb4'.size
      clear hb4' hb5
      go_wp2_with fail
      refine (bapply_nil _ _).mono ?_
      rintro e w6 ⟨rfl, hb6⟩
      have hb6' := below_tr hb5' hb6 hb5'.size
      clear hb5' hb6
      go_wp2_with fail
      refine (len_nil _).mono ?_
      rintro e w7 ⟨rfl, hb7⟩
      have hb7' := below_tr hb6' hb7 hb6'.size
      clear hb6' hb7
      go_wp2_with fail
      refine (text_nil _).mono ?_
      rintro e w8 ⟨rfl, hb8⟩
      have hb8' := below_tr hb7' hb8 hb7'.size
      clear hb7' hb8
      go_wp2_with fail
      refine (past_nil _).mono ?_
      rintro e w9 ⟨rfl, hb9⟩
      have hb9' := below_tr hb8' hb9 hb8'.size
      clear hb8' hb9
      go_wp2_with fail
      refine (future_nil _).mono ?_
      rintro e w10 ⟨rfl, hb10⟩
      have hb10' := below_tr hb9' hb10 hb9'.size
      clear hb9' hb10
      go_wp2_with fail
      refine (pieces_nil _).mono ?_
      rintro e w11 ⟨rfl, hb11⟩
      have hb11' := below_tr hb10' hb11 hb10'.size
      clear hb10' hb11
      go_wp2_with fail
      refine (HAW.out _).mono ?_
      rintro e w12 ⟨rfl, hb12⟩
      have hb12' := below_tr hb11' hb12 hb11'.size
      clear hb11' hb12
      go_wp2
      go_ret
      exact ⟨rfl, hb12'⟩
end Go.Proofs.Ytpifobaejmfppaa
