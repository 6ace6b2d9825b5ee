/- A new buffer. -/
import Derived.Test.YtpifobaejmfppaaN9
import Derived.Laws.IdiomStrings
namespace Go.Proofs.Ytpifobaejmfppaa
open Go.RowKit

set_option maxRecDepth 100000 in
set_option maxHeartbeats 2000000 in
theorem new_long (s : ByteArray) (w : World) (h : 1048576 < s.size) :
    Calls Try.prog 28 #[.string s] w fun e w' => e = .returned (.tuple #[.pointer none, .int .i64 3]) ∧ w' = w := by
  go_enter Try.func28, Try.ntmps28
  go_wp2
  go_ret2
  exact ⟨rfl, rfl⟩

set_option maxRecDepth 100000 in
set_option maxHeartbeats 2000000 in
theorem new_any (s : ByteArray) (w : World) (h : s.size ≤ 1048576) :
    Calls Try.prog 28 #[.string s] w fun e w' => ∃ Bf A c L, e = .returned (.tuple #[.pointer (some ⟨Bf, 0, none⟩), .int .i64 0]) ∧ TxAt w' w.heap.size Bf (.slice none 0 0) (.slice none 0 0) 0 A L.length c L s.data.toList ∧ Below w.heap.size w w' ∧ L.length ≤ 1 ∧ w.heap.size ≤ Bf := by
  have q1 : decide (1048576 < (s.size : Int)) = false := by simp; omega
  obtain ⟨cp, hcp⟩ : ∃ cp, cp = grownCap w s.size 0 5 := ⟨_, rfl⟩
  obtain ⟨C, hC⟩ : ∃ C, C = bytesRow s cp := ⟨_, rfl⟩
  have hconv : (convert 9 64 (.string s)).run Try.prog w = .ok (.slice (some ⟨w.heap.size, 0, none⟩) s.size cp) (w.drew.alloc (.cells C 5 (C.size, C.size + 1))) := by
    rw [hC, hcp]; exact run_bytes_of_string w 9 64 5 s Try.underlying9 Try.underlying64 Try.underlying5
  have hc1 : s.size ≤ cp := by rw [hcp]; exact grownCap_ge _ _ _ _
  have hc2 : cp ≤ 9223372036854775807 := by rw [hcp]; have := grownCap_le_maxLen w s.size 0 5 (by unfold maxLen; omega); unfold maxLen at this; omega
  have HC := Lib.hid hC
  clear hcp hC
  have hb1 : Below w.heap.size w (w.drew.alloc (.cells C 5 (C.size, C.size + 1))) := (Below.refl _ w).drew.alloc (Nat.le_refl _) _
  have hbk : (w.drew.alloc (.cells C 5 (C.size, C.size + 1))).heap[w.heap.size]? = some (.cells C 5 (C.size, C.size + 1)) := by
    show (w.heap.push _)[w.heap.size]? = _
    simp
  have HB1 := Lib.hid hb1; have HBK := Lib.hid hbk
  clear hb1 hbk
  go_enter Try.func28, Try.ntmps28
  go_wp2_with fail
  refine (appendPiece_any none 0 0 (some ⟨w.heap.size, 0, none⟩) s.size cp w.heap.size [] _ (World.ownsRow_nil _ _ _ _) (by simp) (by omega) hc1 hc2).mono ?_
  rintro e w1 ⟨A', c', rfl, ho1, hg1, _⟩
  rw [Nat.zero_add] at ho1 ⊢
  obtain ⟨n', hn'⟩ : ∃ n', n' = (pcOf (some ⟨w.heap.size, 0, none⟩) s.size).length := ⟨_, rfl⟩
  rw [← hn'] at ho1 ⊢
  have HN := Lib.hid hn'; have HO := Lib.hid ho1; have HG := Lib.hid hg1
  clear hn' ho1 hg1 hconv
  go_wp2
  refine bodyPost_ret (v := .tuple #[.pointer (some ⟨w1.heap.size, 0, none⟩), .int .i64 0]) (by simp [results, Try.results28, go_sem]) rfl ?_
  have hg := HG.out
  have hsl : s.data.toList.length = s.size := (Lib.size_eq s).symm
  have hbb1 : Below w.heap.size w w1 := HB1.out.grown hg HB1.out.size (fun g hg => by simp [Value.ownBlock] at hg)
  have hbk1 : w1.heap[w.heap.size]? = some (.cells C 5 (C.size, C.size + 1)) := (hg.block _ (lt_of_heap HBK.out) (by simp [Value.ownBlock])).trans HBK.out
  have hbk2 := (Below.heap_alloc w1 (.cells #[.slice none 0 0, .slice none 0 0, .int .i64 0, .slice A' n' c', .int .i64 s.size] 95) w.heap.size (lt_of_heap hbk1)).trans hbk1
  have hL : ∃ L : List Pc, L.map Pc.val = pcOf (some ⟨w.heap.size, 0, none⟩) s.size ∧ pcText L = s.data.toList ∧ (∀ q ∈ L, q = ⟨w.heap.size, 0, s.data.toList⟩ ∧ 0 < s.size) ∧ L.length ≤ 1 := by
    by_cases h0 : s.size = 0
    · refine ⟨[], by rw [pcOf, if_pos h0]; rfl, ?_, by simp, by simp⟩
      exact (List.eq_nil_of_length_eq_zero (by omega)).symm
    · refine ⟨[⟨w.heap.size, 0, s.data.toList⟩], ?_, by simp [pcText], by simp; omega, by simp⟩
      rw [pcOf, if_neg h0]
      simp [Pc.val, hsl]
  obtain ⟨L, l1, l2, l3, l4⟩ := hL
  have hln : L.length = n' := by rw [HN.out, ← l1, List.length_map]
  refine ⟨w1.heap.size, A', c', L, rfl, ⟨?_, ?_, rfl, fun q hq => ?_, l2, by omega⟩, hbb1.alloc hbb1.size _, l4, hbb1.size⟩
  · rw [hln, hsl]; exact heap_alloc_new w1 _
  · rw [hln, l1]
    have := HO.out
    rw [List.nil_append] at this
    exact this.alloc _
  · obtain ⟨rfl, hpos⟩ := l3 q hq
    refine ⟨⟨C, _, hbk2, fun i b hi => ?_⟩, by rw [hsl]; exact hpos, by rw [hsl]; omega⟩
    rw [Nat.zero_add, HC.out]
    have hi' : s.data.toList[i]? = some b := hi
    obtain ⟨hlt, hget⟩ := List.getElem?_eq_some_iff.1 hi'
    have hlt' : i < s.data.size := by simpa using hlt
    rw [bytesRow_at s cp i hlt']
    simp at hget
    rw [hget]
end Go.Proofs.Ytpifobaejmfppaa
