/- An argument that is a slice of edits, read as a list of edits. -/
import Derived.Test.YtpifobaejmfppaaMem
import Derived.Test.YtpifobaejmfppaaRows
import Derived.ProofKit
import Derived.Deep.Strs
namespace Go.Proofs.Ytpifobaejmfppaa
open Go.ChangeShapes Go.WideShapes Go.ChangeAt Go.RowKit Go.Deep

theorem Try.own : ownKnob Try.prog.godebug = none := by kernel_rfl
theorem Try.laidOut : laidOutB Try.prog = true := by kernel_rfl
theorem Try.cells35 : Try.prog.cellsOf 35 = 3 := by kernel_rfl
theorem Try.cells3 : Try.prog.cellsOf 3 = 1 := by kernel_rfl
theorem Try.cells9 : Try.prog.cellsOf 9 = 1 := by kernel_rfl

theorem three_of {α : Type} {l : List α} (h : l.length = 3) : ∃ a b c, l = [a, b, c] := by
  match l, h with
  | [a, b, c], _ => exact ⟨a, b, c, rfl⟩

/-- One element. -/
theorem open_ed {H : Type} {enc : TypeId × Value → H} {W : World} {fuel : Nat} {p : Addr} {cs : List Value} {x : DataW H × List MemPlace} (hc : W.cells? 0 p 3 = some cs)
    (h : DataW.trod enc Try.prog W 0 (fun _ => true) true fuel 35 cs = some x) : ∃ e : Ed, Cell3 W p e ∧ e.s.size ≤ maxLen := by
  obtain ⟨y0, y1, y2, n, _, hlen, h0, h1, h2⟩ := trod_struct3 Try.underlying35 h
  obtain ⟨a, b, c, rfl⟩ := three_of (hlen.trans Try.cells35)
  obtain ⟨_, _, hat⟩ := World.cells?_some hc
  simp only [Try.cells3, Try.cells9, List.drop_zero, List.drop_succ_cons, List.take_succ_cons, List.take_zero] at h0 h1 h2
  obtain ⟨f, e0, _, _⟩ := DataW.trod_int Try.underlying3 h0
  obtain ⟨t, e1, _, _⟩ := DataW.trod_int Try.underlying3 h1
  obtain ⟨s, e2, _, hs⟩ := DataW.trod_string Try.underlying9 h2
  simp only [List.cons.injEq, and_true] at e0 e1 e2
  subst e0 e1 e2
  have c0 := hat 0 (by omega)
  have c1 := hat 1 (by omega)
  have c2 := hat 2 (by omega)
  simp only [Addr.add, if_true, List.getElem?_cons_zero, List.getElem?_cons_succ] at c0 c1 c2
  exact ⟨⟨f, t, s⟩, ⟨c0, by simpa using c1, by simpa using c2⟩, hs⟩

set_option maxRecDepth 100000 in
theorem open_eds {H : Type} {enc : TypeId × Value → H} {W : World} {v : Value} {d : DataW H} {ps : List MemPlace} {base : Nat} (hv : Value.okWide Try.prog W .any base 22 v)
    (h : DataW.Trod enc Try.prog W 0 (fun _ => true) true 22 v d ps) :
    ∃ (A : Option Addr) (len cap : Nat) (l : List Ed), v = .slice A len cap ∧ l.length = len ∧ len ≤ cap ∧ cap ≤ 9223372036854775807 ∧ EdsAt W W.heap.size A l := by
  obtain ⟨A, len, cap, rfl⟩ := okWide_slice Try.underlying22 hv
  obtain ⟨fuel, hf⟩ := h
  rcases open_slice Try.underlying22 hf with ⟨hcs, _⟩ | ⟨a, len', cap', m, n, D, Pl, hcs, _, hl, hm, hmm, _, hi⟩
  · simp [Value.cells] at hcs
    obtain ⟨rfl, rfl, rfl⟩ := hcs
    exact ⟨none, 0, 0, [], rfl, rfl, Nat.le_refl _, by omega, EdsAt.nil _ _ _⟩
  · simp [Value.cells] at hcs
    obtain ⟨rfl, rfl, rfl⟩ := hcs
    rw [Try.cells35] at hi
    obtain ⟨E, hE⟩ := choose_lt (α := Ed) (n := len) (p := fun i e => Cell3 W (a.add (i * 3)) e) (fun i hil => by
      obtain ⟨cs', h1, h2⟩ := hi i (by rw [hmm]; simp; omega)
      obtain ⟨e, he, _⟩ := open_ed h1 h2
      exact ⟨e, he⟩)
    refine ⟨some a, len, cap, (List.range len).map E, rfl, by simp, hl, by unfold maxLen at hm; omega, ?_⟩
    intro i e he
    have hil : i < len := by
      have := (List.getElem?_eq_some_iff.1 he).1
      simpa using this
    have he' : E i = e := by
      rw [List.getElem?_map, List.getElem?_range hil] at he
      simpa using he
    subst he'
    have hc := hE i hil
    refine ⟨a, rfl, ?_, hc⟩
    have := World.block_lt_of_cell? W _ hc.1
    rwa [add_block] at this

end Go.Proofs.Ytpifobaejmfppaa
