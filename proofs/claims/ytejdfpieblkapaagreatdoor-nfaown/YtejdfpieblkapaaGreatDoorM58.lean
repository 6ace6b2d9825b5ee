/- Carried from another seat. -/
import Derived.Test.YtejdfpieblkapaaGreatDoorM57
import Derived.Test.YtejdfpieblkapaaGreatDoorM56
namespace Go.Proofs.YtejdfpieblkapaaGreatDoor
open Go.RowKit Go.Shelf

theorem Ws.hasN_un (s t : Ws) (m : Nat) (hm : m < 256) : (s.un t).hasN m = (s.hasN m || t.hasN m) := by
  unfold Ws.hasN
  rw [testBit_eq, testBit_eq, testBit_eq]
  rcases (show m / 64 = 0 ∨ m / 64 = 1 ∨ m / 64 = 2 ∨ m / 64 = 3 by omega) with h | h | h | h <;> simp only [Ws.un, Ws.word, h, Nat.testBit_or]
theorem inv64_bit (x k : Nat) (hx : x < 2 ^ 64) (hk : k < 64) : (inv64 x).testBit k = !x.testBit k := by
  have e : inv64 x = 2 ^ 64 - (x + 1) := by unfold inv64; omega
  rw [e, Nat.testBit_two_pow_sub_succ hx]
  simp [hk]
theorem Ws.hasN_inv (s : Ws) (hs : s.Ok) (m : Nat) (hm : m < 256) : (s.inv 4).hasN m = !s.hasN m := by
  unfold Ws.hasN
  rw [testBit_eq, testBit_eq]
  have hk : m % 64 < 64 := Nat.mod_lt _ (by decide)
  rcases (show m / 64 = 0 ∨ m / 64 = 1 ∨ m / 64 = 2 ∨ m / 64 = 3 by omega) with h | h | h | h
  · simp only [Ws.inv, Ws.word, h]; exact inv64_bit _ _ hs.a hk
  · simp only [Ws.inv, Ws.word, h]; exact inv64_bit _ _ hs.b hk
  · simp only [Ws.inv, Ws.word, h]; exact inv64_bit _ _ hs.c hk
  · simp only [Ws.inv, Ws.word, h]; exact inv64_bit _ _ hs.d hk
theorem ws0_has (m : Nat) (hm : m < 256) : ws0.hasN m = false := by
  have := btw_has 0 0 m (by omega) hm
  rw [show ws0 = btw 0 0 from rfl, this]; simp
theorem un_ne {s : Ws} {f k : Nat} (hk : f + (k + 1) ≤ 256) : s.un (btw f (k + 1)) ≠ ws0 := fun h => by
  have h1 := Ws.hasN_un s (btw f (k + 1)) f (by omega)
  rw [h, ws0_has f (by omega), btw_has f (k + 1) f hk (by omega)] at h1
  have : decide (f ≤ f ∧ f < f + (k + 1)) = true := decide_eq_true (by omega)
  rw [this] at h1
  simp at h1

/-- Places as cells. -/
def bls (f : Nat → Bool) : List Value := (List.range 256).map fun k => .bool (f k)
theorem bls_len (f : Nat → Bool) : (bls f).length = 256 := by simp [bls]
theorem bls_ext {f g : Nat → Bool} (h : ∀ k, k < 256 → f k = g k) : bls f = bls g := by
  unfold bls
  exact List.map_congr_left (fun k hk => by rw [h k (List.mem_range.1 hk)])
theorem bls_get (f : Nat → Bool) {k : Nat} (hk : k < 256) : (bls f)[k]? = some (.bool (f k)) := by simp [bls, hk]
theorem setB_bls (s : Ws) : setB s = bls s.hasN := rfl
theorem noB_bls : noB = bls (fun _ => false) := rfl
theorem bls_set (f : Nat → Bool) (k : Nat) (v : Bool) : (bls f).set k (.bool v) = bls (fun i => if i = k then v else f i) := by
  apply List.ext_getElem?
  intro i
  rw [List.getElem?_set]
  by_cases h : k = i
  · subst h
    by_cases hk : k < 256
    · rw [if_pos rfl, if_pos (by rw [bls_len]; exact hk), bls_get _ hk]; simp
    · rw [if_pos rfl, if_neg (by rw [bls_len]; exact hk), List.getElem?_eq_none (by rw [bls_len]; omega)]
  · rw [if_neg h]
    by_cases hk : i < 256
    · rw [bls_get _ hk, bls_get _ hk, if_neg (Ne.symm h)]
    · rw [List.getElem?_eq_none (by rw [bls_len]; omega), List.getElem?_eq_none (by rw [bls_len]; omega)]
theorem RfC_get (K : Int) (f : Nat → Bool) (L : Value) {k : Nat} (hk : k < 256) : (RfC K (bls f) L)[1 + k]? = some (.bool (f k)) := by
  unfold RfC
  rw [Nat.add_comm, List.getElem?_cons_succ, List.getElem?_append_left (by rw [bls_len]; exact hk), bls_get f hk]
theorem RfC_set (K : Int) (f : Nat → Bool) (L : Value) {k : Nat} (hk : k < 256) (v : Bool) : (RfC K (bls f) L).set (1 + k) (.bool v) = RfC K (bls (fun i => if i = k then v else f i)) L := by
  unfold RfC
  rw [Nat.add_comm, List.set_cons_succ, List.set_append_left _ _ (by rw [bls_len]; exact hk), bls_set]
/-- A set in the making, in its box. -/
def RfB (w : World) (b : Nat) (f : Nat → Bool) : Prop := w.heap[b]? = some (.cells (RfC 0 (bls f) (.slice none 0 0)).toArray 36 (0, 0))
theorem RfB.cell {w : World} {b : Nat} {f : Nat → Bool} (h : RfB w b f) {k : Nat} (hk : k < 256) : w.cell? ⟨b, 1 + k, none⟩ = some (.bool (f k)) ∧ w.frozen? ⟨b, 1 + k, none⟩ = false := by
  refine ⟨?_, Lib.frozen_of_heap h _⟩
  rw [Lib.cell_of_heap h]
  show (RfC 0 (bls f) (.slice none 0 0)).toArray[1 + k]? = _
  rw [List.getElem?_toArray, RfC_get 0 f _ hk]
theorem RfB.set {w : World} {b : Nat} {f : Nat → Bool} (h : RfB w b f) {k : Nat} (hk : k < 256) (v : Bool) : RfB (w.setCell ⟨b, 1 + k, none⟩ (.bool v)) b (fun i => if i = k then v else f i) := by
  unfold RfB at *
  rw [set_heap w b (1 + k) _ _ _ _ h]
  congr 2
  rw [Array.set!_eq_setIfInBounds, List.setIfInBounds_toArray, RfC_set 0 f _ hk v]
theorem RfB.ext {w : World} {b : Nat} {f g : Nat → Bool} (h : RfB w b f) (he : ∀ k, k < 256 → f k = g k) : RfB w b g := by
  unfold RfB at *; rw [h, bls_ext he]
theorem RfB.below {w w' : World} {b : Nat} {f : Nat → Bool} (h : RfB w b f) (hb : Below w.heap.size w w') : RfB w' b f := (hb.block b (lt_of_heap h)).trans h
theorem RfB.range {w : World} {b : Nat} {f : Nat → Bool} (h : RfB w b f) : w.rangeAt b 0 (RfC 0 (bls f) (.slice none 0 0)) := fun j v hv => by
  rw [Lib.cell_of_heap h]
  show (RfC 0 (bls f) (.slice none 0 0)).toArray[0 + j]? = _
  rw [List.getElem?_toArray, Nat.zero_add]; exact hv
theorem zero30 : Tryz.zeroCells36 = (RfC 0 (bls (fun _ => false)) (.slice none 0 0)).toArray := by kernel_rfl
theorem set_rf (w : World) (s : Ws) (f : Nat → Bool) (h : ∀ k, k < 256 → f k = s.hasN k) : RfV w (.set s) (RfC 0 (bls f) (.slice none 0 0)) := by
  show RfC 0 (bls f) (.slice none 0 0) = RfC 0 (setB s) (.slice none 0 0)
  rw [bls_ext h]; rfl
end Go.Proofs.YtejdfpieblkapaaGreatDoor
