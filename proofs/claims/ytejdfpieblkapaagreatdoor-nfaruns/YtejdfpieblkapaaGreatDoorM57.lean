/- Carried from another seat. -/
import Derived.Test.YtejdfpieblkapaaGreatDoorM54
import Derived.Test.YtejdfpieblkapaaGreatDoorM55
import Derived.Deep.OwnRows
namespace Go.Proofs.YtejdfpieblkapaaGreatDoor
open Go.RowKit Go.Shelf

/-- Places in memory. -/
def BlR (w : World) (F n : Nat) (f : Nat → Bool) : Prop := ∃ cs : Array Value, w.heap[F]? = some (.cells cs 4 (0, 0)) ∧ cs.size = n ∧ ∀ k, k < n → cs[k]? = some (.bool (f k))
theorem BlR.cell {w : World} {F n : Nat} {f : Nat → Bool} (h : BlR w F n f) {k : Nat} (hk : k < n) : w.cell? ⟨F, k, none⟩ = some (.bool (f k)) ∧ w.frozen? ⟨F, k, none⟩ = false := by
  obtain ⟨cs, h1, h2, h3⟩ := h
  exact ⟨by rw [Lib.cell_of_heap h1]; exact h3 k hk, Lib.frozen_of_heap h1 k⟩
theorem BlR.lt {w : World} {F n : Nat} {f : Nat → Bool} (h : BlR w F n f) : F < w.heap.size := by obtain ⟨cs, h1, _⟩ := h; exact lt_of_heap h1
theorem BlR.below {w w' : World} {F n : Nat} {f : Nat → Bool} (h : BlR w F n f) (hb : Below w.heap.size w w') : BlR w' F n f := by
  obtain ⟨cs, h1, h2, h3⟩ := h
  exact ⟨cs, (hb.block F (lt_of_heap h1)).trans h1, h2, h3⟩
theorem BlR.set {w : World} {F n : Nat} {f : Nat → Bool} (h : BlR w F n f) (k : Nat) (b : Bool) : BlR (w.setCell ⟨F, k, none⟩ (.bool b)) F n (fun i => if i = k then b else f i) := by
  obtain ⟨cs, h1, h2, h3⟩ := h
  refine ⟨cs.set! k (.bool b), set_heap w F k cs _ 4 (0, 0) h1, by simp [h2], fun i hi => ?_⟩
  rw [Array.set!_eq_setIfInBounds, Array.getElem?_setIfInBounds]
  by_cases e : k = i
  · subst e; simp [h2, hi]
  · simp [e, h3 i hi, Ne.symm e]
theorem BlR.made (w : World) (n : Nat) : BlR (w.alloc (.cells (madeCells #[.bool false] n) 4)) w.heap.size n (fun _ => false) := by
  refine ⟨_, heap_alloc_new w _, size_madeCells _ _, fun k hk => ?_⟩
  rw [← Array.getElem?_toList, toList_madeCells_one]
  simp [hk]
/-- What Ends answers. -/
def EnTo (r : Rx) (T : List UInt8) (n : Nat) (f : Nat → Bool) (w : World) (e : Ending) (w' : World) : Prop := ∃ O o, e = .returned (.slice (some ⟨O, 0, none⟩) n n) ∧ BlR w' O n o ∧ En r T f o ∧ Below w.heap.size w w'
theorem Tryz.info4 : (Tryz.prog.info? 4).map (fun i => (i.zero, i.size, i.bytes)) = some (some (.bool false), 1, 1) := by kernel_rfl
theorem setB_get (s : Ws) {k : Nat} (hk : k < 256) : (RfC 0 (setB s) (.slice none 0 0))[1 + k]? = some (.bool (s.hasN k)) := by
  unfold RfC
  rw [Nat.add_comm, List.getElem?_cons_succ, List.getElem?_append_left (by rw [setB_len]; exact hk)]
  simp [setB, hk]

set_option maxRecDepth 100000 in
set_option maxHeartbeats 2000000 in
theorem ends_set (s : Ws) (w : World) (cs : List Value) (t : ByteArray) (F n : Nat) (f : Nat → Bool) (h : RfV w (.set s) cs) (ht : t.size ≤ 10000) (hn : n = t.size + 1) (hF : BlR w F n f) :
    Calls Tryz.prog 51 #[.agg cs.toArray, .string t, .slice (some ⟨F, 0, none⟩) n n] w (EnTo (.set s) t.data.toList n f w) := by
  have hcs : cs = RfC 0 (setB s) (.slice none 0 0) := h
  have hb0 : Below w.heap.size w (w.alloc (.cells cs.toArray 36)) := (Below.refl _ w).alloc (Nat.le_refl _) _
  have hblk := heap_alloc_new w (.cells cs.toArray 36)
  have p1 : IntKind.i64.wrap ((t.size : Int) + 1) = (n : Int) := by rw [hn, IntWalk.i64_in _ (by omega)]; omega
  obtain ⟨i0, hi0, hz0, hz1, hz2⟩ := info_parts Tryz.info4
  have HI := Lib.hid hi0; have HZ0 := Lib.hid hz0; have HZ1 := Lib.hid hz1; have HZ2 := Lib.hid hz2
  clear hi0 hz0 hz1 hz2
  have HCS := Lib.hid hcs; have HF := Lib.hid hF; have HN := Lib.hid hn; have HB0 := Lib.hid hb0; have HBL := Lib.hid hblk
  have hnb : n ≤ 10001 := by omega
  clear h hcs hF hb0 hblk hn
  have hb1 := HB0.out.alloc (show w.heap.size ≤ (w.alloc (.cells cs.toArray 36)).heap.size by simp) (.cells (madeCells #[.bool false] n) 4)
  have hO := BlR.made (w.alloc (.cells cs.toArray 36)) n
  have hsz : (w.alloc (.cells cs.toArray 36)).heap.size = w.heap.size + 1 := by simp
  rw [hsz] at hO
  have hB := (Below.heap_alloc (w.alloc (.cells cs.toArray 36)) (.cells (madeCells #[.bool false] n) 4) w.heap.size (by simp)).trans HBL.out
  have c0 : ((w.alloc (.cells cs.toArray 36)).alloc (.cells (madeCells #[.bool false] n) 4)).cell? ⟨w.heap.size, 0, none⟩ = some (.int .i64 0) := by rw [Lib.cell_of_heap hB, HCS.out]; rfl
  have HB1 := Lib.hid hb1; have HO := Lib.hid hO; have HBk := Lib.hid hB
  clear hb1 hO hB hsz
  go_enter Tryz.func51, Tryz.ntmps51
  go_wp2_with (at_make; refine wpList_make_row _ rfl _ _ 67 rfl 4 i0 (.bool false) Tryz.underlying67 HI.out HZ0.out HZ1.out rfl .i64 .i64 n rfl rfl (by rw [HZ2.out]; omega) (by omega) ?_)
  generalize (w.alloc (.cells cs.toArray 36)).alloc (.cells (madeCells #[.bool false] n) 4) = w1 at c0 HB1 HO HBk ⊢
  go_loopw [8] (fun vi wr => ∃ (k : Nat) (o : Nat → Bool), k ≤ t.size ∧ vi = .int .i64 k ∧ Hid (BlR wr (w.heap.size + 1) n o ∧ o 0 = false ∧ (∀ i (x : UInt8), i < k → t.data.toList[i]? = some x → o (i + 1) = (f i && s.has x)) ∧ Below w.heap.size w wr ∧ wr.heap[w.heap.size]? = some (.cells cs.toArray 36 (0, 0)))) (fun vi _ => t.size - (intOf vi).toNat)
  case atStart => exact ⟨0, fun _ => false, Nat.zero_le _, rfl, HO.out, rfl, fun i x hi => by omega, HB1.out, HBk.out⟩
  case round =>
    obtain ⟨k, o, hk, rfl, HQ⟩ := hrel
    obtain ⟨q1, q2, q3, q4, q5⟩ := HQ.out
    by_cases hlt : k < t.size
    · have hki : (k : Int) < t.size := by omega
      have hk0 : (0 : Int) ≤ k := by omega
      have hnn := HN.out
      have hFk := ((HF.out.below q4).cell (k := k) (by omega)).1
      obtain ⟨k1, hk1⟩ : ∃ k1, k1 = k + 1 := ⟨_, rfl⟩
      obtain ⟨hOk, hOf⟩ := q1.cell (k := k1) (by omega)
      have hkn : (k : Int) < n := by omega
      have hk1n : (k1 : Int) < n := by omega
      have hk10 : (0 : Int) ≤ k1 := by omega
      have p2 : IntKind.i64.wrap ((k : Int) + 1) = (k1 : Int) := by rw [hk1, IntWalk.i64_in _ (by omega)]; omega
      have hxl := t[k].toNat_lt
      have hxi : ((t[k].toNat : Nat) : Int) < 256 := by omega
      have hget : t.data.toList[k]? = some t[k] := by
        rw [List.getElem?_eq_getElem (by rw [← Lib.size_eq]; exact hlt)]; simp; rfl
      have hBk : wr.cell? ⟨w.heap.size, 1 + t[k].toNat, none⟩ = some (.bool (s.has t[k])) := by
        rw [Lib.cell_of_heap q5]
        show cs.toArray[1 + t[k].toNat]? = _
        rw [List.getElem?_toArray, HCS.out, setB_get s (by omega)]; rfl
      obtain ⟨b, hb⟩ : ∃ b, b = s.has t[k] := ⟨_, rfl⟩
      rw [← hb] at hBk
      obtain ⟨a, ha⟩ : ∃ a, a = f k := ⟨_, rfl⟩
      rw [← ha] at hFk
      have HFin := Lib.hid (fun (v : Bool) (hv : v = (a && b)) => (show BlR (wr.setCell ⟨w.heap.size + 1, k1, none⟩ (.bool v)) (w.heap.size + 1) n (fun i => if i = k1 then v else o i) ∧ (fun i => if i = k1 then v else o i) 0 = false ∧ (∀ i (x : UInt8), i < k1 → t.data.toList[i]? = some x → (fun i => if i = k1 then v else o i) (i + 1) = (f i && s.has x)) ∧ Below w.heap.size w (wr.setCell ⟨w.heap.size + 1, k1, none⟩ (.bool v)) ∧ (wr.setCell ⟨w.heap.size + 1, k1, none⟩ (.bool v)).heap[w.heap.size]? = some (.cells cs.toArray 36 (0, 0)) from by
        refine ⟨q1.set k1 v, by show (if 0 = k1 then v else o 0) = false; rw [if_neg (by omega)]; exact q2, fun i x hi hx => ?_, q4.trans ((Kb.setCell wr ⟨w.heap.size + 1, k1, none⟩ _).below q4.size (fun i hi => by rw [hi]; show w.heap.size ≤ w.heap.size + 1; omega)), (Below.heap_setCell wr ⟨w.heap.size + 1, k1, none⟩ _ _ (by show w.heap.size ≠ w.heap.size + 1; omega)).trans q5⟩
        show (if i + 1 = k1 then v else o (i + 1)) = _
        by_cases e : i = k
        · subst e
          rw [if_pos hk1.symm, hv, ha, hb]
          rw [hget] at hx
          injection hx with hx
          rw [hx]
        · rw [if_neg (by omega)]
          exact q3 i x (by omega) hx))
      have HK1 := Lib.hid hk1
      clear q1 q2 q3 q4 q5 hget hb ha HQ hk1 hnn
      cases a <;> (
        go_wp2
        go_roundw
        case rel => exact ⟨k1, _, by have := HK1.out; omega, rfl, HFin.out _ (by simp)⟩
        case measure => have := HK1.out; simp [intOf]; omega)
    · obtain rfl : k = t.size := by omega
      have hen : En (.set s) t.data.toList f o := En_set s _ f o q2 (fun i x hx => q3 i x (by have := (List.getElem?_eq_some_iff.1 hx).1; rw [← Lib.size_eq] at this; exact this) hx)
      have HE := Lib.hid (show EnTo (.set s) t.data.toList n f w (.returned (.slice (some ⟨w.heap.size + 1, 0, none⟩) n n)) wr from ⟨_, o, rfl, q1, hen, q4⟩)
      clear q1 q2 q3 q4 q5 hen HQ
      go_wp2
      go_ret
      exact HE.out
end Go.Proofs.YtejdfpieblkapaaGreatDoor
