/- A buffer with its steps: what Apply, Undo and Redo do. -/
import Derived.Test.YtpifobaejmfppaaN15
namespace Go.Proofs.Ytpifobaejmfppaa
open Go.RowKit

/-- A step: edits, and the text that they make. -/
abbrev St := List Ed × List UInt8

/-- A value that shows edits of a row of their own. -/
def StepV (w : World) (v : Value) (l : List Ed) : Prop := ∃ B d, v = .slice B l.length d ∧ w.ownsRow 0 35 3 (.slice B l.length d) l.length (edCells l)

def Steps (w : World) : List Value → List St → Prop
  | [], [] => True
  | v :: vs, s :: ss => StepV w v s.1 ∧ Steps w vs ss
  | _, _ => False

/-- From a text, each step's edits are right, and make the step's text. -/
def Chain : List UInt8 → List St → Prop
  | _, [] => True
  | T, s :: ss => rightB 0 T.length s.1 = true ∧ appl T 0 s.1 = s.2 ∧ s.2.length ≤ 1048576 ∧ s.1.length ≤ 100000 ∧ Chain s.2 ss

def lens (ps : List St) : Nat := (ps.map (fun s => s.1.length)).sum

theorem StepV.kt {w w' : World} {v : Value} {l : List Ed} (h : StepV w v l) (hk : KT w w') : StepV w' v l := by
  obtain ⟨B, d, hv, ho⟩ := h
  exact ⟨B, d, hv, hk.own ho (by decide) (by decide)⟩
theorem Steps.kt {w w' : World} (hk : KT w w') : ∀ {vs : List Value} {ss : List St}, Steps w vs ss → Steps w' vs ss
  | [], [], _ => trivial
  | v :: vs, s :: ss, h => ⟨h.1.kt hk, Steps.kt hk h.2⟩
  | [], _ :: _, h => h.elim
  | _ :: _, [], h => h.elim

/-- The blocks that a buffer writes to. -/
def Mt (Bf : Nat) (P F : Value) (i : Nat) : Prop := i = Bf ∨ some i = P.ownBlock ∨ some i = F.ownBlock

/-- A buffer: its text, the steps that can be undone, and those that can be redone. -/
structure HisAt (w : World) (N Bf : Nat) (P F : Value) (made n : Nat) (T : List UInt8) (ps fs : List St) : Prop where
  tx : ∃ A c L, TxAt w N Bf P F made A n c L T
  pv : ∃ A c, P = .slice A ps.length c
  fv : ∃ A c, F = .slice A fs.length c
  po : ∃ vr : List Value, w.ownsRow N 22 1 P ps.length vr.reverse ∧ Steps w vr ps
  fo : ∃ vr : List Value, w.ownsRow N 22 1 F fs.length vr.reverse ∧ Steps w vr fs
  ne : ∀ g, P.ownBlock = some g → F.ownBlock ≠ some g
  pch : Chain T ps
  fch : Chain T fs
  mkd : lens ps ≤ made
  mx : made ≤ 1000000000
  tl : T.length ≤ 1048576
  lo : N ≤ Bf
  sz : N ≤ w.heap.size

theorem row_ty {w : World} {N n : Nat} {P : Value} {vs : List Value} (h : w.ownsRow N 22 1 P n vs) {i : Nat} (hi : some i = P.ownBlock) : N ≤ i ∧ ∃ cs, w.heap[i]? = some (.cells cs 22 (0, 0)) := by
  rcases h.2 with ⟨hv, _⟩ | ⟨g, cap, cur, hv, hbb, hgg, _⟩
  · rw [hv] at hi; simp [Value.ownBlock] at hi
  · rw [hv] at hi
    have : i = g := by simpa [Value.ownBlock] using hi
    subst this
    exact ⟨hbb, cur, hgg⟩

theorem bf_ty {w : World} {Bf : Nat} {p f pc : Value} {made sz : Int} (h : BfAt w Bf p f made pc sz) : ∃ cs, w.heap[Bf]? = some (.cells cs 95 (0, 0)) := ⟨_, h⟩

theorem HisAt.mt {w : World} {N Bf made n : Nat} {P F : Value} {T : List UInt8} {ps fs : List St} (h : HisAt w N Bf P F made n T ps fs) {i : Nat} (hi : Mt Bf P F i) : N ≤ i ∧ ∃ cs t, w.heap[i]? = some (Obj.cells cs t (0, 0)) ∧ (t = 95 ∨ t = 22) := by
  obtain ⟨A, c, L, ht⟩ := h.tx
  obtain ⟨vr, hp, _⟩ := h.po
  obtain ⟨vf, hf, _⟩ := h.fo
  rcases hi with rfl | hi | hi
  · obtain ⟨cs, hc⟩ := bf_ty ht.bf
    exact ⟨h.lo, cs, 95, hc, .inl rfl⟩
  · obtain ⟨h1, cs, hc⟩ := row_ty hp hi
    exact ⟨h1, cs, 22, hc, .inr rfl⟩
  · obtain ⟨h1, cs, hc⟩ := row_ty hf hi
    exact ⟨h1, cs, 22, hc, .inr rfl⟩

theorem HisAt.kt {w w' : World} {N Bf made n : Nat} {P F : Value} {T : List UInt8} {ps fs : List St} (h : HisAt w N Bf P F made n T ps fs) (hk : Kb (Mt Bf P F) w w') : KT w w' := hk.kt (fun i hi cs t fz hh => by
  obtain ⟨_, cs', t', hc, ht⟩ := h.mt hi
  rw [hc] at hh
  injection hh with hh
  injection hh with _ h2
  rw [← h2]; exact ht)

/-- What is done elsewhere changes nothing of a buffer. -/
theorem HisAt.keep {ex : Nat → Prop} {w w' : World} {N Bf made n : Nat} {P F : Value} {T : List UInt8} {ps fs : List St} (h : HisAt w N Bf P F made n T ps fs) (hk : Kb ex w w') (hx : ∀ i, Mt Bf P F i → ¬ ex i) (hkt : KT w w') : HisAt w' N Bf P F made n T ps fs := by
  obtain ⟨A, c, L, ht⟩ := h.tx
  obtain ⟨vr, hp, hps⟩ := h.po
  obtain ⟨vf, hf, hfs⟩ := h.fo
  exact ⟨⟨A, c, L, ht.kt hkt (ht.bf.kb hk (hx _ (.inl rfl)))⟩, h.pv, h.fv, ⟨vr, own_kb hp hk (fun g hg => hx g (.inr (.inl hg.symm))), hps.kt hkt⟩, ⟨vf, own_kb hf hk (fun g hg => hx g (.inr (.inr hg.symm))), hfs.kt hkt⟩, h.ne, h.pch, h.fch, h.mkd, h.mx, h.tl, h.lo, Nat.le_trans h.sz hk.size⟩

/-- What a call that changes a buffer leaves. -/
def HisBack (N Bf : Nat) (P F : Value) (made : Nat) (T : List UInt8) (ps fs : List St) (P0 F0 : Value) (w w' : World) : Prop :=
  ∃ n, HisAt w' N Bf P F made n T ps fs ∧ n ≤ 1 + 2 * made ∧ Kb (Mt Bf P0 F0) w w' ∧ ∀ i, Mt Bf P F i → Mt Bf P0 F0 i ∨ w.heap.size ≤ i

theorem step_of_own {w : World} {B : Nat} {A : Option Addr} {c : Nat} {l : List Ed} (h : w.ownsRow B 35 3 (.slice A l.length c) l.length (edCells l)) : StepV w (.slice A l.length c) l := ⟨A, c, rfl, own_more h (Nat.zero_le _)⟩

theorem turn_chain {T : List UInt8} {l : List Ed} (hT : T.length ≤ 1048576) (hl : l.length ≤ 100000) (hR : rightB 0 T.length l = true) {ss : List St} (h : Chain T ss) : Chain (appl T 0 l) ((turn T 0 l, T) :: ss) := by
  have h1 := turn_right T ((appl T 0 l).length : Int) l 0 0 (Nat.zero_le _) hR (by omega) (by have := appl_len T l 0 (Nat.zero_le _) hR; simp at this ⊢; omega)
  have h2 := turn_appl T (appl T 0 l) l [] 0 0 (Nat.zero_le _) hR (by simp) (by simp)
  refine ⟨?_, ?_, hT, by rw [turn_len]; exact hl, h⟩
  · simpa using h1
  · simpa using h2
end Go.Proofs.Ytpifobaejmfppaa
