/- reach: what its ranges over functions keep. -/
import Derived.Test.YtejdfpieblkapaaGreatDoorG36b
import Derived.Test.YtejdfpieblkapaaGreatDoorRi
namespace Go.Proofs.YtejdfpieblkapaaGreatDoor
open Go.RowKit Go.Shelf

theorem ownFrom_kb {β : Type} {ex : Nat → Prop} {W0 : World} {B : Nat} (hB : W0.heap.size ≤ B) : OwnFrom B (fun (_ : β) W => Kb ex W0 W) := fun _ X Y row hs hg hr =>
 ⟨hg.os.trans hs.os, hg.tape.trans hs.tape, hg.output.trans hs.output, Nat.le_trans hs.size hg.size, fun i hi hn => (hg.block i (Nat.lt_of_lt_of_le hi hs.size) (fun e => by have := (hr i e.symm).1; omega)).trans (hs.block i hi hn)⟩
theorem bs_own {X Y : World} {g : Nat} {ws : List Nat} {row : Option Nat} (h : BsAt X g ws) (hg : X.grownBy Y row) (hr : ∀ r, row = some r → ∃ o : Obj, X.heap[r]? = some o ∧ o.isCells = false) : BsAt Y g ws :=
 ⟨(hg.block g (lt_of_heap h.1) (fun e => by obtain ⟨o, ho, hc⟩ := hr g e.symm; rw [h.1] at ho; injection ho with ho; subst ho; simp [Obj.isCells] at hc)).trans h.1, h.2⟩
theorem ownFrom_bs {β : Type} {B g : Nat} {Pr : β → List Nat → Prop} : OwnFrom B (fun (s : β) W => ∃ ws, BsAt W g ws ∧ Pr s ws) := fun _ _ _ _ ⟨ws, h1, h2⟩ hg hr => ⟨ws, bs_own h1 hg (fun r e => (hr r e).2), h2⟩
theorem keeps_kb {B g : Nat} {ws : List Nat} {W W' : World} (hb : BsAt W g ws) (hk : Kb (fun i => i = g) W W') : KeepsFrom B W W' := ⟨hk.size, fun k o _ h0 ho => by
 refine (hk.block k (lt_of_heap h0) (fun e => ?_)).trans h0
 rw [show k = g from e, hb.1] at h0
 injection h0 with h0
 subst h0
 simp [Obj.isCells] at ho⟩
theorem keepI_kb {I : Nat → Prop} {g : Nat} {W W' : World} (hI : ∀ k, I k → k ≠ g) (hk : Kb (fun i => i = g) W W') : KeepI I W W' := fun k _ _ _ hi h => (hk.block k (lt_of_heap h) (hI k hi)).trans h
structure OT (w W : World) (bc nc gs : Nat) (C : Array Value) (fz : Nat × Nat) (Ds : List Nat) : Prop where
 c : W.heap[bc]? = some (.cells #[.int .u8 nc] 5 (0, 0))
 r : W.heap[gs]? = some (.cells C 5 fz)
 n : Ds.Nodup
 d : ∀ D ∈ Ds, W.heap[D]? = some (.deferred (some [])) ∧ w.heap.size ≤ D
section
variable {w W W' : World} {bc nc gs g : Nat} {C : Array Value} {fz : Nat × Nat} {Ds : List Nat} {ws : List Nat}
end
theorem sbits_get {ws : List Nat} {nw : Nat} (hl : ws.length = nw) (hw : ∀ x ∈ ws, x < 2 ^ 64) (x : Int) : x ∈ sbits ws nw ↔ ∃ q : Nat, x = q ∧ bt ws q = true := by
 rw [sbits_eq, List.mem_map]
 constructor
 ·rintro ⟨q, hq, rfl⟩
  refine ⟨q, rfl, ?_⟩
  rw [← hl] at hq
  exact (nbits_mem ws hw q).1 hq
 ·rintro ⟨q, rfl, hq⟩
  refine ⟨q, ?_, rfl⟩
  rw [← hl]
  exact (nbits_mem ws hw q).2 hq
structure Cl9 (L : Nat → Bool) : Prop where
 a2 : L 2 = true → L 1 = true
 a3 : L 3 = true → L 2 = true
 a4 : L 4 = true → L 3 = true
 a6 : L 6 = true → L 4 = true
 b6 : L 6 = true → L 5 = true
 a7 : L 7 = true → L 6 = true
 a8 : L 8 = true → L 0 = true
 b8 : L 8 = true → L 7 = true
theorem Cl9.no8 {L : Nat → Bool} (h : Cl9 L) {i : Nat} (hi : i < 8) (hL : L i = false) : L 8 = false := by
 by_cases e : L 8 = true
 ·have h0 := h.a8 e; have h7 := h.b8 e; have h6 := h.a7 h7; have h5 := h.b6 h6; have h4 := h.a6 h6; have h3 := h.a4 h4; have h2 := h.a3 h3; have h1 := h.a2 h2
  rcases (show i = 0 ∨ i = 1 ∨ i = 2 ∨ i = 3 ∨ i = 4 ∨ i = 5 ∨ i = 6 ∨ i = 7 by omega) with rfl | rfl | rfl | rfl | rfl | rfl | rfl | rfl <;> simp_all
 ·simpa using e
end Go.Proofs.YtejdfpieblkapaaGreatDoor
