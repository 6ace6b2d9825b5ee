/- How a list of edits lies in memory, and what keeps it. -/
import Derived.Test.YtpifobaejmfppaaMath
import Derived.WalkKit
import Derived.Lib.Hide
namespace Go.Proofs.Ytpifobaejmfppaa
open Go.RowKit

def Cell3 (w : World) (p : Addr) (e : Ed) : Prop :=
  w.cell? p = some (.int .i64 e.f) ∧ w.cell? ⟨p.block, p.off + 1, none⟩ = some (.int .i64 e.t) ∧ w.cell? ⟨p.block, p.off + 2, none⟩ = some (.string e.s)

/-- The slice that begins at A holds the edits l, in blocks below B. -/
def EdsAt (w : World) (B : Nat) (A : Option Addr) (l : List Ed) : Prop :=
  ∀ i e, l[i]? = some e → ∃ ad, A = some ad ∧ ad.block < B ∧ Cell3 w (ad.add (i * 3)) e

theorem add_block (a : Addr) (n : Nat) : (a.add n).block = a.block := by unfold Addr.add; split <;> rfl

theorem EdsAt.keep {w w' : World} {B : Nat} {A : Option Addr} {l : List Ed} (h : EdsAt w B A l) (hk : ∀ p : Addr, p.block < B → w'.cell? p = w.cell? p) : EdsAt w' B A l := by
  intro i e he
  obtain ⟨ad, h1, h2, c0, c1, c2⟩ := h i e he
  have hb : (ad.add (i * 3)).block < B := by rw [add_block]; exact h2
  exact ⟨ad, h1, h2, (hk _ hb).trans c0, (hk ⟨_, _, none⟩ hb).trans c1, (hk ⟨_, _, none⟩ hb).trans c2⟩

theorem EdsAt.below {w w' : World} {B : Nat} {A : Option Addr} {l : List Ed} (h : EdsAt w B A l) (hb : Below B w w') : EdsAt w' B A l := h.keep fun _ hp => hb.cell hp

theorem EdsAt.more {w : World} {B B' : Nat} {A : Option Addr} {l : List Ed} (h : EdsAt w B A l) (hB : B ≤ B') : EdsAt w B' A l := by
  intro i e he
  obtain ⟨ad, h1, h2, h3⟩ := h i e he
  exact ⟨ad, h1, by omega, h3⟩

theorem EdsAt.nil (w : World) (B : Nat) (A : Option Addr) : EdsAt w B A [] := fun i e he => by simp at he

theorem drop_cons_of {α : Type} {l : List α} {k : Nat} {e : α} (h : l[k]? = some e) : l.drop k = e :: l.drop (k + 1) := by
  obtain ⟨hk, rfl⟩ := List.getElem?_eq_some_iff.1 h
  exact List.drop_eq_getElem_cons hk

theorem get_some {α : Type} (l : List α) (k : Nat) (h : k < l.length) : ∃ e, l[k]? = some e := ⟨l[k], List.getElem?_eq_getElem h⟩

theorem below_tr {B B' : Nat} {a b c : World} (h1 : Below B a b) (h2 : Below B' b c) (h : B ≤ B') : Below B a c := h1.trans (h2.mono h)

theorem get_elem_of {α : Type} {l : List α} {k : Nat} {e : α} (h : l[k]? = some e) (hk : k < l.length) : l[k] = e := by
  rw [List.getElem?_eq_getElem hk] at h; exact Option.some.inj h

theorem take_snoc_of {α : Type} {l : List α} {k : Nat} {e : α} (h : l[k]? = some e) : l.take (k + 1) = l.take k ++ [e] := by
  obtain ⟨hk, rfl⟩ := List.getElem?_eq_some_iff.1 h
  exact List.take_succ_eq_append_getElem hk

theorem ret_int {k : IntKind} {a b : Int} (h : a = b) : Ending.returned (.int k a) = .returned (.int k b) := by rw [h]
theorem ret_bool {a b : Bool} (h : a = b) : Ending.returned (.bool a) = .returned (.bool b) := by rw [h]

end Go.Proofs.Ytpifobaejmfppaa
