/- Carried from another seat. -/
import Derived.Test.YtejdfpieblkapaaGreatDoorM18
import Derived.Shelf.Small.Strs
namespace Go.Proofs.YtejdfpieblkapaaGreatDoor
open Go.RowKit Go.Shelf


def ren137 : Go.Shelf.Ren := ⟨fun | 137 => 110 | 217 => 131 | 266 => 151 | n => n, fun n => n, fun n => n⟩
theorem lays137 : Go.Proofs.Lays.n137 Tryz.prog ren137 := {
  mixed := by kernel_rfl
  f137 := Tryz.func110.trans (congrArg some (by kernel_rfl))
  f217 := Tryz.func131.trans (congrArg some (by kernel_rfl))
  f266 := Tryz.func151.trans (congrArg some (by kernel_rfl))
  t3 := Tryz.underlying3
  a3 := Tryz.isAgg3
  z3 := Tryz.sizeOf3
  v3 := Tryz.zeroValue3
  t5 := Tryz.underlying5
  a5 := Tryz.isAgg5
  z5 := Tryz.sizeOf5
  v5 := Tryz.zeroValue5
  t9 := Tryz.underlying9
  a9 := Tryz.isAgg9
  z9 := Tryz.sizeOf9
  v9 := Tryz.zeroValue9 }
theorem indexByte_any (s : ByteArray) (c : Nat) (w : World) : Calls Tryz.prog 110 #[.string s, .int .u8 c] w fun e w' => e = .returned (.int .i64 (Lib.indexByte s.data.toList c.toUInt8)) ∧ w' = w := Any.strings_IndexByte lays137 s c w

/-- A parser's block. -/
def PsB (w : World) (P : Nat) (s : ByteArray) (i : Nat) (ov : Value) (d : Int) (l : Bool) : Prop := w.heap[P]? = some (.cells #[.string s, .int .i64 i, ov, .int .i64 d, .bool l] 123 (0, 0))
/-- The byte at a place; 0 at the end. -/
def nx (l : List UInt8) (i : Nat) : Nat := (l[i]?.getD 0).toNat
theorem nx_lt (l : List UInt8) (i : Nat) : nx l i < 256 := (l[i]?.getD 0).toNat_lt

set_option maxHeartbeats 1000000 in
theorem next_any (w : World) (P : Nat) (s : ByteArray) (i : Nat) (ov : Value) (d : Int) (l : Bool) (h : PsB w P s i ov d l) (hi : i ≤ s.size) (_hs : s.size ≤ 1000000) :
    Calls Tryz.prog 111 #[ptr P] w fun e w' => e = .returned (.int .u8 (nx s.data.toList i)) ∧ PsB w' P s i ov d l ∧ Below w.heap.size w w' := by
  unfold PsB at h
  have c0 : w.cell? ⟨P, 0, none⟩ = some (.string s) := by rw [Lib.cell_of_heap h]; rfl
  have c1 : w.cell? ⟨P, 1, none⟩ = some (.int .i64 i) := by rw [Lib.cell_of_heap h]; rfl
  have HH := Lib.hid h
  clear h
  by_cases hlt : i < s.size
  · have hne : (i : Int) ≠ s.size := by omega
    have hii : (i : Int) < s.size := by omega
    go_enter Tryz.func111, Tryz.ntmps111
    go_wp2_with fail
    go_quiet (fail)
    go_wp2_with fail
    go_quiet (fail)
    go_wp2
    go_ret
    refine ⟨?_, HH.out, (below_drewN _ _ _).trans (below_drewN _ _ _)⟩
    have : nx s.data.toList i = s[i].toNat := by
      unfold nx
      rw [List.getElem?_eq_getElem (by rw [← Lib.size_eq]; exact hlt)]
      simp
      rfl
    rw [this]; rfl
  · obtain rfl : i = s.size := by omega
    go_enter Tryz.func111, Tryz.ntmps111
    go_wp2_with fail
    go_quiet (fail)
    go_wp2
    go_ret
    refine ⟨?_, HH.out, below_drewN _ _ _⟩
    have : nx s.data.toList s.size = 0 := by
      unfold nx
      rw [List.getElem?_eq_none (by rw [← Lib.size_eq]; exact Nat.le_refl _)]
      rfl
    rw [this]; rfl

theorem PsB.below {w w' : World} {P : Nat} {s : ByteArray} {i : Nat} {ov : Value} {d : Int} {l : Bool} (h : PsB w P s i ov d l) (hb : Below w.heap.size w w') : PsB w' P s i ov d l := (hb.block P (lt_of_heap h)).trans h
theorem PsB.step {w : World} {P : Nat} {s : ByteArray} {i : Nat} {ov : Value} {d : Int} {l : Bool} (h : PsB w P s i ov d l) (j : Nat) : PsB (w.setCell ⟨P, 1, none⟩ (.int .i64 j)) P s j ov d l := by
  unfold PsB at *
  rw [set_heap w P 1 _ _ _ _ h]; rfl
theorem nx_in {s : ByteArray} {i c : Nat} (h : nx s.data.toList i = c) (hc : 0 < c) : i < s.size := by
  rcases Nat.lt_or_ge i s.size with h' | h'
  · exact h'
  · unfold nx at h
    rw [List.getElem?_eq_none (by rw [← Lib.size_eq]; exact h')] at h
    simp at h
    omega

set_option maxHeartbeats 1000000 in
theorem take_no (w : World) (P c : Nat) (s : ByteArray) (i : Nat) (ov : Value) (d : Int) (l : Bool) (h : PsB w P s i ov d l) (hi : i ≤ s.size) (hs : s.size ≤ 1000000) (hc : nx s.data.toList i ≠ c) :
    Calls Tryz.prog 106 #[ptr P, .int .u8 c] w fun e w' => e = .returned (.bool false) ∧ PsB w' P s i ov d l ∧ Below w.heap.size w w' := by
  have HN := Lib.hid (next_any w P s i ov d l h hi hs)
  have hci : ((nx s.data.toList i : Nat) : Int) ≠ (c : Int) := by omega
  generalize nx s.data.toList i = x at HN hci
  clear h hc
  go_enter Tryz.func106, Tryz.ntmps106
  go_wp2_with fail
  refine HN.out.mono ?_
  rintro e w1 ⟨rfl, h1, h2⟩
  have HF := Lib.hid (And.intro h1 h2)
  clear h1 h2
  go_wp2
  go_ret
  exact ⟨rfl, HF.out.1, HF.out.2⟩
set_option maxHeartbeats 1000000 in
theorem take_yes (w : World) (P c : Nat) (s : ByteArray) (i : Nat) (ov : Value) (d : Int) (l : Bool) (h : PsB w P s i ov d l) (hi : i ≤ s.size) (hs : s.size ≤ 1000000) (hc : nx s.data.toList i = c) (hc0 : 0 < c) :
    Calls Tryz.prog 106 #[ptr P, .int .u8 c] w fun e w' => e = .returned (.bool true) ∧ PsB w' P s (i + 1) ov d l ∧ Kb (fun j => j = P) w w' := by
  have HN := Lib.hid (next_any w P s i ov d l h hi hs)
  have hlt := nx_in hc hc0
  rw [hc] at HN
  have hwr : IntKind.i64.wrap ((i : Int) + 1) = ((i + 1 : Nat) : Int) := by rw [IntWalk.i64_in _ (by omega)]; omega
  clear h hc
  go_enter Tryz.func106, Tryz.ntmps106
  go_wp2_with fail
  refine HN.out.mono ?_
  rintro e w1 ⟨rfl, h1, h2⟩
  have c1 : w1.cell? ⟨P, 1, none⟩ = some (.int .i64 i) := by unfold PsB at h1; rw [Lib.cell_of_heap h1]; rfl
  have f1 : w1.frozen? ⟨P, 1, none⟩ = false := Lib.frozen_of_heap h1 1
  have HF := Lib.hid (And.intro h1 h2)
  clear h1 h2
  generalize hj : ((i + 1 : Nat) : Int) = j at hwr
  have HJ := Lib.hid hj
  clear hj
  go_wp2
  go_ret
  refine ⟨rfl, by rw [← HJ.out]; exact HF.out.1.step (i + 1), (Kb.of_below _ HF.out.2).trans (Kb.setCell w1 ⟨P, 1, none⟩ _) (fun k _ hk => hk)⟩
end Go.Proofs.YtejdfpieblkapaaGreatDoor
