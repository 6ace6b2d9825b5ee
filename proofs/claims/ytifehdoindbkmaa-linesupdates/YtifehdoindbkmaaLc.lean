/- What newLines, slices.Collect, strings.Clone and lines.New make: an index in memory. -/
import Derived.Test.YtifehdoindbkmaaLb
import Derived.Test.YtifehdoindbkmaaShelfL
import Derived.WalkSpells
import Derived.WalkLawsBesides
import Derived.BigQuiet
import Derived.Deep.QuietTactic
import Derived.IntWalk
namespace Go.Proofs.Ytifehdoindbkmaa
open Go.RowKit Go.Shelf

theorem ret_bool {a b : Bool} (h : a = b) : Ending.returned (.bool a) = .returned (.bool b) := by rw [h]
theorem ret_int {k : IntKind} {a b : Int} (h : a = b) : Ending.returned (.int k a) = .returned (.int k b) := by rw [h]

/-- Where lines begin in a text, but for the first one. -/
def bgs (s : ByteArray) : List Int := nls s.data.toList s.size
theorem bgs_len (s : ByteArray) : (bgs s).length ≤ s.size := nls_len _ _

theorem newLines_any (s : ByteArray) (w : World) : Calls Try.prog 16 #[.string s] w fun e w' => e = .returned (.func (.func 24) #[] #[.pointer (some ⟨w.heap.size, 0, none⟩)]) ∧ w' = w.alloc (.cells #[.string s] 9) := by
  go_enter Try.func16, Try.ntmps16
  go_wp2
  go_ret
  exact ⟨rfl, rfl⟩

theorem appendSeq_any (Bn : Nat) (s : ByteArray) (hs : s.size ≤ 1000000) (w : World) (hBn : Bn < w.heap.size) (hc : w.cell? ⟨Bn, 0, none⟩ = some (.string s)) :
    Calls Try.prog 23 #[.slice none 0 0, .func (.func 24) #[] #[.pointer (some ⟨Bn, 0, none⟩)]] w fun e W' => ∃ v, e = .returned v ∧ W'.ownsRow w.heap.size 3 1 v (bgs s).length ((bgs s).map (Value.int .i64)) ∧ Below w.heap.size w W' :=
  (callsIn_wide (n := 3)).1 (appendSeq_in Fence.wide 3 trivial trivial rfl (by omega) Bn s hs w hBn hc)

/-- A slice value that owns a row is one of so many. -/
theorem own_form {w : World} {base e size n : Nat} {v : Value} {xs : List Value} (h : w.ownsRow base e size v n xs) : ∃ A c, v = .slice A n c ∧ n ≤ c ∧ c ≤ 9223372036854775807 := by
  rcases h.2 with ⟨rfl, rfl⟩ | ⟨g, cap, cur, rfl, _, _, h1, h2, _⟩
  · exact ⟨none, 0, rfl, Nat.le_refl _, by omega⟩
  · exact ⟨_, _, rfl, h1, by unfold maxLen at h2; omega⟩

theorem ownsRow_below {w w' : World} {base e size n : Nat} {v : Value} {xs : List Value} (h : w.ownsRow base e size v n xs) (hb : Below w.heap.size w w') : w'.ownsRow base e size v n xs := by
  refine ⟨h.1, h.2.imp id ?_⟩
  rintro ⟨g, cap, cur, rfl, r1, r2, r3⟩
  exact ⟨g, cap, cur, rfl, r1, (hb.block g (Array.getElem?_eq_some_iff.1 r2).1).trans r2, r3⟩

set_option maxRecDepth 100000 in
set_option maxHeartbeats 1000000 in
theorem collect_any (Bn : Nat) (s : ByteArray) (hs : s.size ≤ 1000000) (w : World) (hBn : Bn < w.heap.size) (hc : w.cell? ⟨Bn, 0, none⟩ = some (.string s)) :
    Calls Try.prog 15 #[.func (.func 24) #[] #[.pointer (some ⟨Bn, 0, none⟩)]] w fun e W' => ∃ A c, e = .returned (.slice A (bgs s).length c) ∧ W'.ownsRow w.heap.size 3 1 (.slice A (bgs s).length c) (bgs s).length ((bgs s).map (Value.int .i64)) ∧ Below w.heap.size w W' := by
  have HA := appendSeq_any Bn s hs w hBn hc
  clear hc
  go_enter Try.func15, Try.ntmps15
  go_wp2_with fail
  refine HA.mono ?_
  rintro e w1 ⟨v, rfl, hr, hb⟩
  obtain ⟨A, c, rfl, _, _⟩ := own_form hr
  have HR := Lib.hid hr
  clear hr HA
  go_wp2
  go_ret
  exact ⟨A, c, rfl, HR.out, hb⟩

set_option maxRecDepth 100000 in
theorem clone_any (s : ByteArray) (w : World) (hs : s.size ≤ 1000000000000) : Calls Try.prog 14 #[.string s] w fun e w' => e = .returned (.string s) ∧ Below w.heap.size w w' := by
  go_enter Try.func14, Try.ntmps14
  go_wp2_with fail
  refine (Try.stringslite_Clone s w (by omega)).mono ?_
  rintro e w1 ⟨rfl, hb⟩
  go_wp2
  go_ret
  exact ⟨rfl, hb⟩

/-- An index of a text, as it lies at block X. -/
structure XAt (w : World) (base X : Nat) (s : ByteArray) (A : Option Addr) (c : Nat) : Prop where
  blk : w.heap[X]? = some (.cells #[.string s, .slice A (bgs s).length c] 49 (0, 0))
  row : w.ownsRow base 3 1 (.slice A (bgs s).length c) (bgs s).length ((bgs s).map (Value.int .i64))

theorem XAt.below {w w' : World} {base X c : Nat} {s : ByteArray} {A : Option Addr} (h : XAt w base X s A c) (hb : Below w.heap.size w w') : XAt w' base X s A c :=
  ⟨(hb.block X (Array.getElem?_eq_some_iff.1 h.blk).1).trans h.blk, ownsRow_below h.row hb⟩
theorem XAt.lt {w : World} {base X c : Nat} {s : ByteArray} {A : Option Addr} (h : XAt w base X s A c) : X < w.heap.size := (Array.getElem?_eq_some_iff.1 h.blk).1
theorem XAt.c0 {w : World} {base X c : Nat} {s : ByteArray} {A : Option Addr} (h : XAt w base X s A c) : w.cell? ⟨X, 0, none⟩ = some (.string s) := by rw [Lib.cell_of_heap h.blk]; rfl
theorem XAt.c1 {w : World} {base X c : Nat} {s : ByteArray} {A : Option Addr} (h : XAt w base X s A c) : w.cell? ⟨X, 1, none⟩ = some (.slice A (bgs s).length c) := by rw [Lib.cell_of_heap h.blk]; rfl
theorem XAt.caps {w : World} {base X c : Nat} {s : ByteArray} {A : Option Addr} (h : XAt w base X s A c) : (bgs s).length ≤ c ∧ c ≤ 9223372036854775807 := by
  obtain ⟨A', c', e, h1, h2⟩ := own_form h.row
  simp at e
  obtain ⟨_, rfl⟩ := e
  exact ⟨h1, h2⟩
theorem XAt.at' {w : World} {base X c : Nat} {s : ByteArray} {A : Option Addr} (h : XAt w base X s A c) {i : Nat} {z : Int} (hz : (bgs s)[i]? = some z) : ∃ g, A = some ⟨g, 0, none⟩ ∧ w.cell? ⟨g, i, none⟩ = some (.int .i64 z) ∧ g < w.heap.size := by
  have hlt := (List.getElem?_eq_some_iff.1 hz).1
  rcases h.row.2 with ⟨_, hn⟩ | ⟨g, cap, cur, e, _, hg, _, _, _, ht⟩
  · omega
  · simp at e
    obtain ⟨rfl, rfl⟩ := e
    refine ⟨g, rfl, ?_, (Array.getElem?_eq_some_iff.1 hg).1⟩
    rw [Lib.cell_of_heap hg]
    have h3 : (cur.toList.take ((bgs s).length * 1))[i]? = some (.int .i64 z) := by rw [ht, List.getElem?_map, hz]; rfl
    rw [List.getElem?_take, Nat.mul_one, if_pos hlt] at h3
    rw [← Array.getElem?_toList]; exact h3

set_option maxRecDepth 100000 in
set_option maxHeartbeats 2000000 in
theorem new_any (s : ByteArray) (w : World) (hs : s.size ≤ 1000000) :
    Calls Try.prog 6 #[.string s] w fun e w' => ∃ X A c, e = .returned (.pointer (some ⟨X, 0, none⟩)) ∧ XAt w' w.heap.size X s A c ∧ Below w.heap.size w w' := by
  go_enter Try.func6, Try.ntmps6
  go_wp2_with fail
  refine (clone_any s w (by omega)).mono ?_
  rintro e w1 ⟨rfl, hb1⟩
  go_wp2_with fail
  refine (newLines_any s w1).mono ?_
  rintro e w2 ⟨rfl, rfl⟩
  have hb2 := hb1.alloc hb1.size (.cells #[.string s] 9)
  have hcell : (w1.alloc (.cells #[.string s] 9)).cell? ⟨w1.heap.size, 0, none⟩ = some (.string s) := (Boxed.new w1 9 _).cell
  have HC := collect_any w1.heap.size s hs (w1.alloc (.cells #[.string s] 9)) (by simp) hcell
  clear hcell
  go_wp2_with fail
  refine HC.mono ?_
  rintro e w3 ⟨A, c, rfl, hr, hb3⟩
  have hb4 := hb2.trans (hb3.mono hb2.size)
  have HR := Lib.hid hr; have HB := Lib.hid hb4
  have hzz : w.heap.size ≤ (w1.alloc (.cells #[.string s] 9)).heap.size := hb2.size
  clear HC hr hb3 hb2 hb1 hb4
  go_wp2
  refine bodyPost_ret (v := .pointer (some ⟨w3.heap.size, 0, none⟩)) (by simp [results, Try.results6, go_sem]) rfl ?_
  refine ⟨w3.heap.size, A, c, rfl, ⟨?_, ?_⟩, HB.out.alloc HB.out.size _⟩
  · exact World.alloc_heap_new w3 _
  · have h1 := HR.out
    have h2 : w3.ownsRow w.heap.size 3 1 (.slice A (bgs s).length c) (bgs s).length ((bgs s).map (Value.int .i64)) := by
      refine ⟨h1.1, h1.2.imp id ?_⟩
      rintro ⟨g, cap, cur, e, r1, r2⟩
      exact ⟨g, cap, cur, e, Nat.le_trans hzz r1, r2⟩
    exact h2.alloc _
end Go.Proofs.Ytifehdoindbkmaa
