/- What edits.Apply answers. -/
import Derived.Test.YtpifobaejmfppaaRight
import Derived.Test.YtpifobaejmfppaaC
import Derived.Test.YtpifobaejmfppaaE
import Derived.Lib.OthersKept
namespace Go.Proofs.Ytpifobaejmfppaa
open Go.RowKit

theorem mv_right (n : Int) : ∀ (l : List Ed) (a p q : Int), rightB a n l = true → l.foldl (mvStep n) (p, q) = (p, q + sumGr l)
  | [], _, p, q, _ => by simp [sumGr]
  | e :: r, a, p, q, h => by
    rw [rightB_cons, Bool.and_eq_true, Ed.okB_iff] at h
    rw [List.foldl_cons, mvStep, if_pos h.1.2.2, mv_right n r e.t _ _ h.2, sumGr]
    simp only [Int.add_assoc]

theorem right_mod {n : Int} {l : List Ed} (h : rightB 0 n l = true) (hn : n ≤ 1099511627776) (ht : tot l ≤ 1099511627776) : ∀ e ∈ l, e.Mod := by
  intro e he
  obtain ⟨k, hk⟩ := List.mem_iff_getElem?.1 he
  obtain ⟨q1, q2, q3, _⟩ := right_at h hk
  have := size_le_tot he
  exact ⟨q1, q2, by omega, by omega⟩

theorem ext_to_end (s : ByteArray) (x : Nat) : (s.extract x s.size).data.toList = s.data.toList.drop x := by
  rw [Lib.extract_data, List.take_of_length_le]
  rw [List.length_drop, ← Lib.size_eq]; exact Nat.le_refl _

/-- What stands in a block of an edit's own cells. -/
theorem cells3 {w w' : World} {b c : Nat} {f t : Int} {s : ByteArray} (h : Lib.OthersKept 5 (some b) w w') (hc : w.heap[c]? = some (.cells #[.int .i64 f, .int .i64 t, .string s] 35 (0, 0))) (hne : c ≠ b) :
    w'.heap[c]? = some (.cells #[.int .i64 f, .int .i64 t, .string s] 35 (0, 0)) :=
  h c _ hc (fun e => hne (Option.some.inj e)) (fun cs fz e => by cases e)

theorem cell0_of {w : World} {c : Nat} {f t : Int} {s : ByteArray} (hc : w.heap[c]? = some (.cells #[.int .i64 f, .int .i64 t, .string s] 35 (0, 0))) : w.cell? ⟨c, 0, none⟩ = some (.int .i64 f) := by
  rw [Lib.cell_of_heap hc]; rfl
theorem cell1_of {w : World} {c : Nat} {f t : Int} {s : ByteArray} (hc : w.heap[c]? = some (.cells #[.int .i64 f, .int .i64 t, .string s] 35 (0, 0))) : w.cell? ⟨c, 1, none⟩ = some (.int .i64 t) := by
  rw [Lib.cell_of_heap hc]; rfl
theorem cell2_of {w : World} {c : Nat} {f t : Int} {s : ByteArray} (hc : w.heap[c]? = some (.cells #[.int .i64 f, .int .i64 t, .string s] 35 (0, 0))) : w.cell? ⟨c, 2, none⟩ = some (.string s) := by
  rw [Lib.cell_of_heap hc]; rfl

set_option maxHeartbeats 400000 in
theorem apply_no (s : ByteArray) (A : Option Addr) (len cap : Nat) (l : List Ed) (w : World) (hlen : l.length = len) (hl : len ≤ cap) (hcap : cap ≤ 9223372036854775807) (_hs : s.size ≤ 9223372036854775807) (hE : EdsAt w w.heap.size A l)
    (hR : rightB 0 s.size l = false) :
    Calls Try.prog 15 #[.string s, .slice A len cap] w fun e w' => e = .returned (.tuple #[.string ⟨#[]⟩, .int .i64 2]) ∧ Below w.heap.size w w' := by
  have c1 := Lib.hid (right_any s.size A len cap l w hlen hl hcap hE)
  have HR := Lib.hid hR; clear hR hlen
  go_enter Try.func15, Try.ntmps15
  go_wp2_with fail
  refine c1.out.mono ?_
  rintro e w1 ⟨rfl, hb1⟩
  rw [HR.out]
  go_wp2
  go_ret2
  exact ⟨rfl, hb1⟩

set_option maxHeartbeats 1000000 in
theorem apply_yes (s : ByteArray) (A : Option Addr) (len cap : Nat) (l : List Ed) (w : World) (hlen : l.length = len) (hl : len ≤ cap) (hcap : cap ≤ 9223372036854775807) (hsm : len ≤ 1048576) (hE : EdsAt w w.heap.size A l)
    (hR : rightB 0 s.size l = true) (hS : s.size + tot l ≤ 1099511627776) :
    Calls Try.prog 15 #[.string s, .slice A len cap] w fun e w' => e = .returned (.tuple #[.string ⟨(appl s.data.toList 0 l).toArray⟩, .int .i64 0]) ∧ Below w.heap.size w w' := by
  have c1 := Lib.hid (right_any s.size A len cap l w hlen hl hcap hE)
  have HM := Lib.hid (right_mod hR (by omega) (by omega))
  have hmv : mv s.size l = ((s.size : Int), sumGr l) := by rw [mv, mv_right _ _ _ _ _ hR, Int.zero_add]
  have HV := Lib.hid hmv; clear hmv
  have hsz : s.data.toList.length = s.size := (Lib.size_eq s).symm
  have hal := appl_len s.data.toList l 0 (by omega) (by rw [hsz]; exact hR)
  rw [hsz] at hal
  have HA := Lib.hid hal; clear hal
  have HZ := Lib.hid hsz; clear hsz
  have HL := Lib.hid hlen; clear hlen
  have HR := Lib.hid hR; clear hR
  have hsg := sumGr_le l
  go_enter Try.func15, Try.ntmps15
  go_wp2_with fail
  refine c1.out.mono ?_
  rintro e w1 ⟨rfl, hb1⟩
  rw [HR.out]
  go_wp2_with fail
  have hz1 := hb1.size
  have hE2 : EdsAt (w1.alloc (.cells #[.pointer none, .slice none 0 0] 70)) (w1.heap.size + 1) A l := (hE.below (hb1.alloc hz1 _)).more (by omega)
  have hbk : (w1.alloc (.cells #[.pointer none, .slice none 0 0] 70)).heap[w1.heap.size]? = some (.cells #[.pointer none, .slice none 0 0] 70 (0, 0)) := heap_alloc_new w1 _
  refine (move_any s.size A len cap l _ HL.out hl hcap hsm (by simpa using hE2) HM.out (by omega) (by omega)).mono ?_
  rintro e w3 ⟨rfl, hb3⟩
  rw [HV.out]
  rw [show ((s.size : Int), sumGr l).1 + ((s.size : Int), sumGr l).2 = ((appl s.data.toList 0 l).length : Int) by have := HA.out; simp at this ⊢; omega]
  have hbk3 : w3.heap[w1.heap.size]? = some (.cells #[.pointer none, .slice none 0 0] 70 (0, 0)) := (hb3.block _ (by simp)).trans hbk
  have hz3 : w1.heap.size + 1 ≤ w3.heap.size := by have := hb3.size; simpa using this
  go_wp2_with fail
  refine (Try.Builder_Grow_fresh w1.heap.size w1.heap.size _ w3 (Nat.le_refl _) hbk3 (by omega) (by have := HA.out; omega)).mono ?_
  rintro e w4 ⟨rfl, hB4, hb4⟩
  have hbw4 : Below w.heap.size w w4 := below_tr (below_tr (hb1.alloc hz1 _) hb3 (by simp; omega)) hb4 hz1
  have hz4 := hb4.size
  clear hbk hbk3 hb3 hb4 hE2 c1
  go_wp2_with fail
  go_loopw [7, 22] (fun a i wr => ∃ (k x : Nat) (pre : List UInt8), k ≤ len ∧ i = .int .i64 k ∧ a = .int .i64 x ∧ x ≤ s.size ∧ Hid (rightB x s.size (l.drop k) = true) ∧ Hid (pre ++ appl s.data.toList x (l.drop k) = appl s.data.toList 0 l) ∧ Hid (Lib.BuilderAtF 70 5 w1.heap.size w1.heap.size (.pointer (some ⟨w1.heap.size, 0, none⟩)) (Lib.byteCells pre) wr) ∧ w1.heap.size + 1 ≤ wr.heap.size ∧ Below w.heap.size w wr) (fun _ i _ => len - (intOf i).toNat)
  case atStart => exact ⟨0, 0, [], Nat.zero_le _, rfl, rfl, Nat.zero_le _, HR.out, rfl, Lib.BuilderAtF.of hB4, by omega, hbw4⟩
  case round =>
    clear hbw4 hB4
    obtain ⟨k, x, pre, hk, rfl, rfl, hx, HRk, HP, HB, hzr, hb⟩ := hrel
    have hpl : pre.length ≤ 1099511627776 := by
      have h1 := HA.out; have h2 := congrArg List.length HP.out; rw [List.length_append] at h2; simp at h1; omega
    by_cases hlt : k < len
    · obtain ⟨e, he⟩ := get_some l k (by rw [HL.out]; exact hlt)
      have HD := Lib.hid (drop_cons_of he)
      have hme := size_le_tot (List.mem_of_getElem? he)
      have hr1 := HRk.out
      rw [HD.out, rightB_cons, Bool.and_eq_true, Ed.okB_iff] at hr1
      obtain ⟨⟨q1, q2, q3⟩, q4⟩ := hr1
      have HQ := Lib.hid q4; clear q4
      obtain ⟨ad, rfl, hab, c0, c1, c2⟩ := (hE.below hb) k e he
      clear he
      have hzb := hb.size
      have hB1 := Lib.hid (HB.out.alloc (.cells #[.int .i64 e.f, .int .i64 e.t, .string e.s] 35))
      have hc0 := Lib.hid (heap_alloc_new wr (.cells #[.int .i64 e.f, .int .i64 e.t, .string e.s] 35))
      go_wp2_with fail
      refine (Try.Builder_WriteString_k w1.heap.size w1.heap.size _ _ _ (Or.inr hB1.out) ?_ (by simp; omega)).mono ?_
      · rw [Lib.byteCells_length]; simp only [ByteArray.size_extract]; omega
      rintro e' w5 ⟨rfl, hB5, hb5, ho5⟩
      have hc5 := Lib.hid (cells3 ho5 hc0.out (by omega))
      have z5 := hb5.size
      simp only [World.size_alloc] at z5
      have HB5 := Lib.hid hB5; clear hB5
      have HO5 := Lib.hid ho5; clear ho5
      have f1 := cell1_of hc5.out
      have f2 := cell2_of hc5.out
      go_wp2_with fail
      refine (Try.Builder_WriteString_k w1.heap.size w1.heap.size _ _ _ (Or.inr HB5.out) ?_ (by omega)).mono ?_
      · rw [List.length_append, Lib.byteCells_length, Lib.strCells_length]; simp only [ByteArray.size_extract]; omega
      rintro e' w6 ⟨rfl, hB6, hb6, ho6⟩
      have hc6 := Lib.hid (cells3 ho6 hc5.out (by omega))
      have HB6 := Lib.hid hB6; clear hB6
      have z6 := hb6.size
      clear ho6 f1 f2
      have f1 := cell1_of hc6.out
      go_wp2
      go_roundw
      case rel =>
        refine ⟨k + 1, e.t.toNat, pre ++ (s.data.toList.drop x).take (e.f.toNat - x) ++ e.bs, by omega, by go_num, by rw [Int.toNat_of_nonneg (by omega)], by omega, ?_, ?_, ?_, by omega, below_tr (below_tr (hb.alloc hzb _) hb5 hz1) hb6 hz1⟩
        · show rightB _ _ _ = true
          rw [Int.toNat_of_nonneg (by omega)]; exact HQ.out
        · show _ = _
          rw [← HP.out, HD.out, appl_cons]; simp only [List.append_assoc]
        · show Lib.BuilderAtF _ _ _ _ _ _ _
          rw [Lib.byteCells_append, Lib.byteCells_append, ← Lib.extract_data]
          exact HB6.out
      case measure => simp [intOf]; omega
    · go_wp2_with fail
      refine (Try.Builder_WriteString_k w1.heap.size w1.heap.size _ _ _ (Or.inr HB.out) ?_ (by omega)).mono ?_
      · rw [Lib.byteCells_length]; simp only [ByteArray.size_extract]; omega
      rintro e' w5 ⟨rfl, hB5, hb5, ho5⟩
      have hfin : appl s.data.toList 0 l = pre ++ s.data.toList.drop x := by
        rw [← HP.out, List.drop_of_length_le (by rw [HL.out]; omega), appl]
      have hB5' : Lib.BuilderAtF 70 5 w1.heap.size w1.heap.size (.pointer (some ⟨w1.heap.size, 0, none⟩)) (Lib.byteCells (appl s.data.toList 0 l)) w5 := by
        rw [hfin, Lib.byteCells_append, ← ext_to_end]; exact hB5
      have HB5 := Lib.hid hB5'; clear hB5 hB5' hfin
      have z5 := hb5.size
      go_wp2_with fail
      refine (Try.Builder_String_any_k w1.heap.size w1.heap.size _ _ (Or.inr HB5.out) (by omega)).mono ?_
      rintro e' w6 ⟨rfl, hB6, hb6, ho6⟩
      clear hB6 ho6 ho5
      go_wp2
      go_ret2
      exact ⟨rfl, below_tr (below_tr hb hb5 hz1) hb6 hz1⟩
end Go.Proofs.Ytpifobaejmfppaa
