/- A buffer's block, and what its history does to it. -/
import Derived.Test.YtpifobaejmfppaaN3
import Derived.Test.YtpifobaejmfppaaP
namespace Go.Proofs.Ytpifobaejmfppaa
open Go.RowKit

/-- All blocks but these stand as they stood. -/
structure Kb (ex : Nat → Prop) (w w' : World) : Prop where
  os : w'.os = w.os
  tape : w'.tape = w.tape
  output : w'.output = w.output
  size : w.heap.size ≤ w'.heap.size
  block : ∀ i, i < w.heap.size → ¬ ex i → w'.heap[i]? = w.heap[i]?

theorem Kb.refl (ex : Nat → Prop) (w : World) : Kb ex w w := ⟨rfl, rfl, rfl, Nat.le_refl _, fun _ _ _ => rfl⟩
theorem Kb.trans {ex ex' : Nat → Prop} {a b c : World} (h : Kb ex a b) (k : Kb ex' b c) (hx : ∀ i, i < a.heap.size → ex' i → ex i) : Kb ex a c :=
  ⟨k.os.trans h.os, k.tape.trans h.tape, k.output.trans h.output, Nat.le_trans h.size k.size, fun i hi hn => (k.block i (Nat.lt_of_lt_of_le hi h.size) (fun h' => hn (hx i hi h'))).trans (h.block i hi hn)⟩
theorem Kb.of_grown {a b : World} {row : Option Nat} (h : a.grownBy b row) : Kb (fun i => some i = row) a b := ⟨h.os, h.tape, h.output, h.size, fun i hi hn => h.block i hi hn⟩
theorem Kb.of_below {a b : World} (ex : Nat → Prop) (h : Below a.heap.size a b) : Kb ex a b := ⟨h.os, h.tape, h.output, h.size, fun i hi _ => h.block i hi⟩
theorem Kb.setCell (w : World) (p : Addr) (v : Value) : Kb (fun i => i = p.block) w (w.setCell p v) := ⟨rfl, rfl, rfl, by simp [World.setCell], fun i _ hn => Below.heap_setCell w p v i hn⟩
theorem Kb.below {ex : Nat → Prop} {a b : World} {B : Nat} (h : Kb ex a b) (hB : B ≤ a.heap.size) (hx : ∀ i, ex i → B ≤ i) : Below B a b := ⟨h.os, h.tape, h.output, h.size, fun i hi => h.block i (by omega) (fun he => by have := hx i he; omega)⟩

/-- A buffer, as it lies: its past, its future, how many edits were made, its pieces, its size. -/
def BfAt (w : World) (Bf : Nat) (p f : Value) (made : Int) (pc : Value) (sz : Int) : Prop := w.heap[Bf]? = some (.cells #[p, f, .int .i64 made, pc, .int .i64 sz] 95 (0, 0))

namespace BfAt
variable {w : World} {Bf : Nat} {p f pc : Value} {made sz : Int}
theorem c0 (h : BfAt w Bf p f made pc sz) : w.cell? ⟨Bf, 0, none⟩ = some p := by rw [Lib.cell_of_heap h]; rfl
theorem c1 (h : BfAt w Bf p f made pc sz) : w.cell? ⟨Bf, 1, none⟩ = some f := by rw [Lib.cell_of_heap h]; rfl
theorem c2 (h : BfAt w Bf p f made pc sz) : w.cell? ⟨Bf, 2, none⟩ = some (.int .i64 made) := by rw [Lib.cell_of_heap h]; rfl
theorem c3 (h : BfAt w Bf p f made pc sz) : w.cell? ⟨Bf, 3, none⟩ = some pc := by rw [Lib.cell_of_heap h]; rfl
theorem c4 (h : BfAt w Bf p f made pc sz) : w.cell? ⟨Bf, 4, none⟩ = some (.int .i64 sz) := by rw [Lib.cell_of_heap h]; rfl
theorem fz (h : BfAt w Bf p f made pc sz) (j : Nat) : w.frozen? ⟨Bf, j, none⟩ = false := Lib.frozen_of_heap h j
theorem lt (h : BfAt w Bf p f made pc sz) : Bf < w.heap.size := lt_of_heap h
theorem s0 (h : BfAt w Bf p f made pc sz) (v : Value) : BfAt (w.setCell ⟨Bf, 0, none⟩ v) Bf v f made pc sz := by
  unfold BfAt at h ⊢; simp [World.setCell, Array.getElem?_modify, h]
theorem s1 (h : BfAt w Bf p f made pc sz) (v : Value) : BfAt (w.setCell ⟨Bf, 1, none⟩ v) Bf p v made pc sz := by
  unfold BfAt at h ⊢; simp [World.setCell, Array.getElem?_modify, h]
theorem s2 (h : BfAt w Bf p f made pc sz) (v : Int) : BfAt (w.setCell ⟨Bf, 2, none⟩ (.int .i64 v)) Bf p f v pc sz := by
  unfold BfAt at h ⊢; simp [World.setCell, Array.getElem?_modify, h]
theorem s3 (h : BfAt w Bf p f made pc sz) (v : Value) : BfAt (w.setCell ⟨Bf, 3, none⟩ v) Bf p f made v sz := by
  unfold BfAt at h ⊢; simp [World.setCell, Array.getElem?_modify, h]
theorem s4 (h : BfAt w Bf p f made pc sz) (v : Int) : BfAt (w.setCell ⟨Bf, 4, none⟩ (.int .i64 v)) Bf p f made pc v := by
  unfold BfAt at h ⊢; simp [World.setCell, Array.getElem?_modify, h]
theorem kb {ex : Nat → Prop} {w' : World} (h : BfAt w Bf p f made pc sz) (k : Kb ex w w') (hx : ¬ ex Bf) : BfAt w' Bf p f made pc sz := (k.block _ h.lt hx).trans h
end BfAt

/-- A row that is owned is not a buffer. -/
theorem own_ne_bf {w : World} {base e size n Bf : Nat} {v p f pc : Value} {made sz : Int} {xs : List Value} (h : w.ownsRow base e size v n xs) (hb : BfAt w Bf p f made pc sz) (he : e ≠ 95) : some Bf ≠ v.ownBlock := by
  rcases h.2 with ⟨rfl, _⟩ | ⟨g, cap, cur, rfl, _, hg, _⟩
  · simp [Value.ownBlock]
  · intro e'
    have : Bf = g := by simpa [Value.ownBlock] using e'
    subst this
    unfold BfAt at hb
    rw [hg] at hb
    injection hb with hb
    injection hb with _ h2
    exact he h2
theorem own_kb {ex : Nat → Prop} {w w' : World} {base e size n : Nat} {v : Value} {xs : List Value} (h : w.ownsRow base e size v n xs) (hk : Kb ex w w') (hx : ∀ g, v.ownBlock = some g → ¬ ex g) : w'.ownsRow base e size v n xs := by
  refine ⟨h.1, ?_⟩
  rcases h.2 with hn | ⟨g, cap, cur, rfl, hb, hgg, rest⟩
  · exact .inl hn
  · exact .inr ⟨g, cap, cur, rfl, hb, (hk.block g (lt_of_heap hgg) (hx g rfl)).trans hgg, rest⟩

set_option maxRecDepth 100000 in
set_option maxHeartbeats 2000000 in
theorem redone_any (Bf : Nat) (A : Option Addr) (n c base : Nat) (vs : List Value) (f pc : Value) (made sz : Int) (B : Option Addr) (m d : Nat) (w : World) (hbf : BfAt w Bf (.slice A n c) f made pc sz) (hown : w.ownsRow base 22 1 (.slice A n c) n vs) (hbase : base ≤ w.heap.size) (hn : n ≤ 1048576) (hm : m ≤ 1099511627776) (h0 : -1099511627776 ≤ made) (h1 : made ≤ 1099511627776) :
    Calls Try.prog 61 #[.pointer (some ⟨Bf, 0, none⟩), .slice B m d] w fun e w' => e = .returned (.tuple #[]) ∧ ∃ g c', BfAt w' Bf (.slice (some ⟨g, 0, none⟩) (n + 1) c') f (made + m) pc sz ∧ w'.ownsRow base 22 1 (.slice (some ⟨g, 0, none⟩) (n + 1) c') (n + 1) (vs ++ [.slice B m d]) ∧ Kb (fun i => i = Bf ∨ some i = (Value.slice A n c).ownBlock) w w' ∧ ((Value.slice A n c).ownBlock = some g ∨ w.heap.size ≤ g) := by
  have c0 := hbf.c0
  have HBF := Lib.hid hbf
  have HO := Lib.hid hown
  have HNE := Lib.hid (own_ne_bf hown hbf (by decide))
  clear hbf hown
  go_enter Try.func61, Try.ntmps61
  go_wp2_with fail
  refine (push_any Bf 0 A n c base vs _ B m d rfl w c0 (HBF.out.fz 0) HO.out hbase hn HBF.out.lt HNE.out).mono ?_
  rintro e w1 ⟨rfl, g, c', w2, rfl, ho, hg, hgg⟩
  have hb2 : BfAt w2 Bf (.slice A n c) f made pc sz := HBF.out.kb (Kb.of_grown hg) HNE.out
  have hb3 := hb2.s0 (.slice (some ⟨g, 0, none⟩) (n + 1) c')
  have hne3 := own_ne_bf ho hb2 (by decide)
  have ho3 := own_kb ho (Kb.setCell w2 ⟨Bf, 0, none⟩ (.slice (some ⟨g, 0, none⟩) (n + 1) c')) (fun q hq he => hne3 (hq.trans (congrArg some he)).symm)
  have k3 : Kb (fun i => i = Bf ∨ some i = (Value.slice A n c).ownBlock) w (w2.setCell ⟨Bf, 0, none⟩ (.slice (some ⟨g, 0, none⟩) (n + 1) c')) :=
    ((Kb.refl _ w).trans (Kb.of_grown hg) (fun i _ h => .inr h)).trans (Kb.setCell w2 ⟨Bf, 0, none⟩ _) (fun i _ h => .inl h)
  clear hb2 ho hg hne3
  generalize (w2.setCell ⟨Bf, 0, none⟩ (.slice (some ⟨g, 0, none⟩) (n + 1) c')) = w3 at *
  have d2 := hb3.c2
  have f2 := hb3.fz 2
  have HB3 := Lib.hid hb3; have HO3 := Lib.hid ho3; have HK3 := Lib.hid k3; have HG3 := Lib.hid hgg
  clear hb3 ho3 k3 hgg
  have p1 : IntKind.i64.wrap (made + (m : Int)) = made + (m : Int) := IntWalk.i64_in _ (by omega)
  go_wp2
  go_end0
  have hne3 := own_ne_bf HO3.out HB3.out (by decide)
  exact ⟨rfl, g, c', HB3.out.s2 _, own_kb HO3.out (Kb.setCell w3 ⟨Bf, 2, none⟩ _) (fun q hq he => hne3 (hq.trans (congrArg some he)).symm), HK3.out.trans (Kb.setCell w3 ⟨Bf, 2, none⟩ _) (fun i _ h => .inl h), HG3.out⟩

set_option maxRecDepth 100000 in
set_option maxHeartbeats 2000000 in
theorem undone_any (Bf : Nat) (A : Option Addr) (n c base : Nat) (vs : List Value) (p pc : Value) (made sz : Int) (B : Option Addr) (m d : Nat) (w : World) (hbf : BfAt w Bf p (.slice A n c) made pc sz) (hown : w.ownsRow base 22 1 (.slice A n c) n vs) (hbase : base ≤ w.heap.size) (hn : n ≤ 1048576) (hm : m ≤ 1099511627776) (h0 : -1099511627776 ≤ made) (h1 : made ≤ 1099511627776) :
    Calls Try.prog 60 #[.pointer (some ⟨Bf, 0, none⟩), .slice B m d] w fun e w' => e = .returned (.tuple #[]) ∧ ∃ g c', BfAt w' Bf p (.slice (some ⟨g, 0, none⟩) (n + 1) c') (made - m) pc sz ∧ w'.ownsRow base 22 1 (.slice (some ⟨g, 0, none⟩) (n + 1) c') (n + 1) (vs ++ [.slice B m d]) ∧ Kb (fun i => i = Bf ∨ some i = (Value.slice A n c).ownBlock) w w' ∧ ((Value.slice A n c).ownBlock = some g ∨ w.heap.size ≤ g) := by
  have c0 := hbf.c1
  have HBF := Lib.hid hbf
  have HO := Lib.hid hown
  have HNE := Lib.hid (own_ne_bf hown hbf (by decide))
  clear hbf hown
  go_enter Try.func60, Try.ntmps60
  go_wp2_with fail
  refine (push_any Bf 1 A n c base vs _ B m d rfl w c0 (HBF.out.fz 1) HO.out hbase hn HBF.out.lt HNE.out).mono ?_
  rintro e w1 ⟨rfl, g, c', w2, rfl, ho, hg, hgg⟩
  have hb2 : BfAt w2 Bf p (.slice A n c) made pc sz := HBF.out.kb (Kb.of_grown hg) HNE.out
  have hb3 := hb2.s1 (.slice (some ⟨g, 0, none⟩) (n + 1) c')
  have hne3 := own_ne_bf ho hb2 (by decide)
  have ho3 := own_kb ho (Kb.setCell w2 ⟨Bf, 1, none⟩ (.slice (some ⟨g, 0, none⟩) (n + 1) c')) (fun q hq he => hne3 (hq.trans (congrArg some he)).symm)
  have k3 : Kb (fun i => i = Bf ∨ some i = (Value.slice A n c).ownBlock) w (w2.setCell ⟨Bf, 1, none⟩ (.slice (some ⟨g, 0, none⟩) (n + 1) c')) :=
    ((Kb.refl _ w).trans (Kb.of_grown hg) (fun i _ h => .inr h)).trans (Kb.setCell w2 ⟨Bf, 1, none⟩ _) (fun i _ h => .inl h)
  clear hb2 ho hg hne3
  generalize (w2.setCell ⟨Bf, 1, none⟩ (.slice (some ⟨g, 0, none⟩) (n + 1) c')) = w3 at *
  have d2 := hb3.c2
  have f2 := hb3.fz 2
  have HB3 := Lib.hid hb3; have HO3 := Lib.hid ho3; have HK3 := Lib.hid k3; have HG3 := Lib.hid hgg
  clear hb3 ho3 k3 hgg
  have p1 : IntKind.i64.wrap (made - (m : Int)) = made - (m : Int) := IntWalk.i64_in _ (by omega)
  go_wp2
  go_end0
  have hne3 := own_ne_bf HO3.out HB3.out (by decide)
  exact ⟨rfl, g, c', HB3.out.s2 _, own_kb HO3.out (Kb.setCell w3 ⟨Bf, 2, none⟩ _) (fun q hq he => hne3 (hq.trans (congrArg some he)).symm), HK3.out.trans (Kb.setCell w3 ⟨Bf, 2, none⟩ _) (fun i _ h => .inl h), HG3.out⟩

theorem forget_no (Bf off : Nat) (A : Option Addr) (n c : Nat) (mx : Int) (w : World) (hc : w.cell? ⟨Bf, off, none⟩ = some (.slice A n c)) (hn : n ≤ mx) (hm : mx ≤ 1099511627776) :
    Calls Try.prog 72 #[.pointer (some ⟨Bf, off, none⟩), .int .i64 mx] w fun e w' => e = .returned (.tuple #[]) ∧ w' = w := by
  have p1 : IntKind.i64.wrap ((n : Int) - mx) = (n : Int) - mx := IntWalk.i64_in _ (by omega)
  have p2 : decide (0 < (n : Int) - mx) = false := by simp; omega
  go_enter Try.func72, Try.ntmps72
  go_wp2
  go_end0
  exact ⟨rfl, rfl⟩

set_option maxRecDepth 100000 in
set_option maxHeartbeats 2000000 in
/-- A new step, where none need be forgotten. -/
theorem done_few (Bf : Nat) (A : Option Addr) (n c base : Nat) (vs : List Value) (f pc : Value) (made sz : Int) (B : Option Addr) (m d : Nat) (w : World) (hbf : BfAt w Bf (.slice A n c) f made pc sz) (hown : w.ownsRow base 22 1 (.slice A n c) n vs) (hbase : base ≤ w.heap.size) (hn : n < 1000) (hm : m ≤ 1099511627776) (h0 : -1099511627776 ≤ made) (h1 : made ≤ 1099511627776) :
    Calls Try.prog 56 #[.pointer (some ⟨Bf, 0, none⟩), .slice B m d] w fun e w' => e = .returned (.tuple #[]) ∧ ∃ g c', BfAt w' Bf (.slice (some ⟨g, 0, none⟩) (n + 1) c') (.slice none 0 0) (made + m) pc sz ∧ w'.ownsRow base 22 1 (.slice (some ⟨g, 0, none⟩) (n + 1) c') (n + 1) (vs ++ [.slice B m d]) ∧ Kb (fun i => i = Bf ∨ some i = (Value.slice A n c).ownBlock) w w' ∧ ((Value.slice A n c).ownBlock = some g ∨ w.heap.size ≤ g) := by
  have HC := Lib.hid (redone_any Bf A n c base vs f pc made sz B m d w hbf hown hbase (by omega) hm h0 h1)
  clear hbf hown
  go_enter Try.func56, Try.ntmps56
  go_wp2_with fail
  refine HC.out.mono ?_
  rintro e w1 ⟨rfl, g, c', hb1, ho1, hk1, hg1⟩
  have HB := Lib.hid hb1; have HO := Lib.hid ho1; have HK := Lib.hid hk1; have HG := Lib.hid hg1
  clear hb1 ho1 hk1 hg1 HC
  go_wp2_with fail
  refine (forget_no Bf 0 _ (n + 1) c' 1000 w1 HB.out.c0 (by omega) (by omega)).mono ?_
  rintro e w2 ⟨rfl, rfl⟩
  go_wp2_with fail
  refine (drop_stack Bf 1 _ _ HB.out.c1 (HB.out.fz 1)).mono ?_
  rintro e w2 ⟨rfl, rfl⟩
  go_wp2
  go_end0
  have hne3 := own_ne_bf HO.out HB.out (by decide)
  exact ⟨rfl, g, c', HB.out.s1 _, own_kb HO.out (Kb.setCell _ ⟨Bf, 1, none⟩ _) (fun q hq he => hne3 (hq.trans (congrArg some he)).symm), HK.out.trans (Kb.setCell _ ⟨Bf, 1, none⟩ _) (fun i _ h => .inl h), HG.out⟩
end Go.Proofs.Ytpifobaejmfppaa
