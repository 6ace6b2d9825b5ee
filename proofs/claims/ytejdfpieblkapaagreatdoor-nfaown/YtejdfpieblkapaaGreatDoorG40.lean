/- Rules: what stands between two texts. -/
import Derived.Test.YtejdfpieblkapaaGreatDoorG30
import Derived.Test.YtejdfpieblkapaaGreatDoorM71
namespace Go.Proofs.YtejdfpieblkapaaGreatDoor
open Go.RowKit Go.Shelf

/-- Two rows in the making: pointers of nodes, nodes of the document's; Q: the nodes' own blocks. -/
structure RuS (w wr : World) (va : Value) (ra : List Rx) (bs : List Nat) (vb : Value) (rb : List Rx) (cb : List Value) (Q : Nat → Prop) : Prop where
  bl : Below w.heap.size w wr
  oa : wr.ownsRow w.heap.size 68 1 va bs.length (bs.map ptr)
  na : NdsQ wr Q ra bs
  ob : wr.ownsRow w.heap.size 36 258 vb rb.length cb
  nb : RfR Q wr rb cb
  lo : ∀ k, Q k → w.heap.size ≤ k ∧ k < wr.heap.size
  xa : ∀ g, va.ownBlock = some g → ¬ Q g
  xb : ∀ g, vb.ownBlock = some g → ¬ Q g
theorem own_ty' {w : World} {base e size n : Nat} {v : Value} {xs : List Value} (h : w.ownsRow base e size v n xs) {g : Nat} (hg : v.ownBlock = some g) : base ≤ g ∧ ∃ cs fz, w.heap[g]? = some (.cells cs e fz) := by
  rcases h.2 with ⟨hv, hn⟩ | ⟨g', cap, cur, hv, hb, hh, _⟩
  · rw [hv] at hg; simp [Value.ownBlock] at hg
  · rw [hv] at hg
    have e' : g' = g := by simpa [Value.ownBlock] using hg
    subst e'
    exact ⟨hb, _, _, hh⟩
theorem own_keep' {w w' : World} {base e size n : Nat} {v : Value} {xs : List Value} {ex : Nat → Prop} (h : w.ownsRow base e size v n xs) (hk : Kb ex w w') (hx : ∀ g, v.ownBlock = some g → ¬ ex g) : w'.ownsRow base e size v n xs := by
  refine ⟨h.1, ?_⟩
  rcases h.2 with hn | ⟨g, cap, cur, rfl, hb, hg, rest⟩
  · exact .inl hn
  · exact .inr ⟨g, cap, cur, rfl, hb, (hk.block g (lt_of_heap hg) (hx g rfl)).trans hg, rest⟩
section
variable {w wr w2 : World} {va vb : Value} {ra rb : List Rx} {bs : List Nat} {cb : List Value} {Q : Nat → Prop}
theorem RuS.below (h : RuS w wr va ra bs vb rb cb Q) (hb : Below wr.heap.size wr w2) : RuS w w2 va ra bs vb rb cb Q :=
  ⟨h.bl.trans (hb.mono h.bl.size), own_keep' h.oa (Kb.of_below (fun _ => False) hb) (fun _ _ x => x), h.na.keep (KeepQ.below hb), own_keep' h.ob (Kb.of_below (fun _ => False) hb) (fun _ _ x => x), h.nb.keep (Kb.of_below (fun _ => False) hb) (fun _ _ _ x => x), fun k hk => ⟨(h.lo k hk).1, Nat.lt_of_lt_of_le (h.lo k hk).2 hb.size⟩, h.xa, h.xb⟩
/-- More blocks are the nodes' own. -/
theorem RuS.wider (h : RuS w wr va ra bs vb rb cb Q) (n m : Nat) (hn : w.heap.size ≤ n) (hm : m ≤ wr.heap.size) (ha : ∀ g, va.ownBlock = some g → g < n) (hb : ∀ g, vb.ownBlock = some g → g < n) : RuS w wr va ra bs vb rb cb (fun k => Q k ∨ (n ≤ k ∧ k < m)) :=
  ⟨h.bl, h.oa, h.na.mono (fun _ _ x => .inl x), h.ob, h.nb.mono (fun _ _ x => .inl x), fun k hk => by
    rcases hk with hk | hk
    · exact h.lo k hk
    · omega, fun g hg hk => by
    rcases hk with hk | hk
    · exact h.xa g hg hk
    · have := ha g hg; omega, fun g hg hk => by
    rcases hk with hk | hk
    · exact h.xb g hg hk
    · have := hb g hg; omega⟩
theorem RuS.ne (h : RuS w wr va ra bs vb rb cb Q) (g : Nat) (ha : va.ownBlock = some g) : vb.ownBlock ≠ some g := fun hb => by
  obtain ⟨_, _, _, h1⟩ := own_ty' h.oa ha
  obtain ⟨_, _, _, h2⟩ := own_ty' h.ob hb
  rw [h1] at h2
  injection h2 with h2
  injection h2 with _ h3 _
  exact absurd h3 (by decide)
theorem nds_snoc {r : Rx} {b : Nat} {w : World} (h : NdsQ w Q ra bs) (hq : NdQ w Q r b) : NdsQ w Q (ra ++ [r]) (bs ++ [b]) := by
  refine ⟨by simp [h.1], fun i r' b' h1 h2 => ?_⟩
  rcases Nat.lt_or_ge i ra.length with hi | hi
  · rw [List.getElem?_append_left hi] at h1
    rw [List.getElem?_append_left (by rw [← h.1]; exact hi)] at h2
    exact h.2 i r' b' h1 h2
  · rw [List.getElem?_append_right hi] at h1
    rw [List.getElem?_append_right (by rw [← h.1]; exact hi)] at h2
    have e : i - ra.length = 0 := by
      have := (List.getElem?_eq_some_iff.1 h1).1; simp at this; omega
    rw [← h.1] at h2
    rw [e] at h1 h2
    simp at h1 h2
    subst h1; subst h2
    exact hq
/-- A node's pointer goes behind the first row. -/
theorem RuS.pushA {r : Rx} {nb g cap : Nat} {w6 : World} {o : Obj} (h : RuS w wr va ra bs vb rb cb Q) (hq : NdQ wr Q r nb) (hown : w6.ownsRow w.heap.size 68 1 (.slice (some ⟨g, 0, none⟩) (bs.length + 1) cap) (bs.length + 1) (bs.map ptr ++ [ptr nb])) (hgrow : (wr.alloc o).grownBy w6 va.ownBlock) (hat : va.ownBlock = some g ∨ g = wr.heap.size + 1) :
    RuS w w6 (.slice (some ⟨g, 0, none⟩) (bs.length + 1) cap) (ra ++ [r]) (bs ++ [nb]) vb rb cb Q := by
  have hal : Below wr.heap.size wr (wr.alloc o) := (Below.refl _ wr).alloc (Nat.le_refl _) o
  have k : Kb (fun i => some i = va.ownBlock) wr w6 := (Kb.of_below _ hal).trans (Kb.of_grown hgrow) (fun _ _ x => x)
  have hqx : ∀ i, Q i → ¬ some i = va.ownBlock := fun i hi e => h.xa i e.symm hi
  refine ⟨h.bl.trans (k.below h.bl.size (fun i hi => (own_ty' h.oa hi.symm).1)), by simpa using hown, nds_snoc (h.na.keep (KeepQ.kb k hqx)) (hq.keep (KeepQ.kb k hqx)), own_keep' h.ob k (fun g' hg' e => h.ne g' e.symm hg'), h.nb.keep k (fun i _ hi => hqx i hi), fun i hi => ⟨(h.lo i hi).1, Nat.lt_of_lt_of_le (h.lo i hi).2 k.size⟩, fun g' hg' hi => ?_, h.xb⟩
  have e : g = g' := by simpa [Value.ownBlock] using hg'
  subst e
  rcases hat with hat | hat
  · exact h.xa g hat hi
  · have := (h.lo g hi).2; omega
/-- A node of the document's goes behind the second row. -/
theorem RuS.pushB {r : Rx} {cs : List Value} {g cap : Nat} {w6 : World} {o : Obj} (h : RuS w wr va ra bs vb rb cb Q) (hq : RfQ Q wr r cs) (hown : w6.ownsRow w.heap.size 36 258 (.slice (some ⟨g, 0, none⟩) (rb.length + 1) cap) (rb.length + 1) (cb ++ cs)) (hgrow : (wr.alloc o).grownBy w6 vb.ownBlock) (hat : vb.ownBlock = some g ∨ g = wr.heap.size + 1) :
    RuS w w6 va ra bs (.slice (some ⟨g, 0, none⟩) (rb.length + 1) cap) (rb ++ [r]) (cb ++ cs) Q := by
  have hal : Below wr.heap.size wr (wr.alloc o) := (Below.refl _ wr).alloc (Nat.le_refl _) o
  have k : Kb (fun i => some i = vb.ownBlock) wr w6 := (Kb.of_below _ hal).trans (Kb.of_grown hgrow) (fun _ _ x => x)
  have hqx : ∀ i, Q i → ¬ some i = vb.ownBlock := fun i hi e => h.xb i e.symm hi
  refine ⟨h.bl.trans (k.below h.bl.size (fun i hi => (own_ty' h.ob hi.symm).1)), own_keep' h.oa k (fun g' hg' e => h.ne g' hg' e.symm), h.na.keep (KeepQ.kb k hqx), by simpa using hown, RfR.snoc (hq.keep k (fun i _ hi => hqx i hi)) (h.nb.keep k (fun i _ hi => hqx i hi)), fun i hi => ⟨(h.lo i hi).1, Nat.lt_of_lt_of_le (h.lo i hi).2 k.size⟩, h.xa, fun g' hg' hi => ?_⟩
  have e : g = g' := by simpa [Value.ownBlock] using hg'
  subst e
  rcases hat with hat | hat
  · exact h.xb g hat hi
  · have := (h.lo g hi).2; omega
theorem RuS.ablt (h : RuS w wr va ra bs vb rb cb Q) : (∀ g, va.ownBlock = some g → g < wr.heap.size) ∧ ∀ g, vb.ownBlock = some g → g < wr.heap.size := ⟨fun g hg => by obtain ⟨_, _, _, h1⟩ := own_ty' h.oa hg; exact lt_of_heap h1, fun g hg => by obtain ⟨_, _, _, h1⟩ := own_ty' h.ob hg; exact lt_of_heap h1⟩
end
/-- Texts at an address. -/
def SsAt (w : World) (A : Option Addr) (ss : List ByteArray) : Prop := ∀ (i : Nat) (s : ByteArray), ss[i]? = some s → ∃ b o, A = some ⟨b, o, none⟩ ∧ w.cell? ⟨b, o + i, none⟩ = some (.string s)
theorem SsAt.below {w w' : World} {A : Option Addr} {ss : List ByteArray} (h : SsAt w A ss) (hb : Below w.heap.size w w') : SsAt w' A ss := fun i s hi => by
  obtain ⟨b, o, h1, h2⟩ := h i s hi
  exact ⟨b, o, h1, (hb.cell (p := ⟨b, o + i, none⟩) (by
    rcases Nat.lt_or_ge b w.heap.size with hl | hl
    · exact hl
    · have : w.heap[b]? = none := Array.getElem?_eq_none hl
      simp [World.cell?, this] at h2)).trans h2⟩
/-- What the texts are, that are some. -/
def rxs (ss : List ByteArray) : List Rx := ss.filterMap fun s => parseF s.data.toList
theorem rxs_yes {ss : List ByteArray} {k : Nat} {s : ByteArray} {r : Rx} (h : ss[k]? = some s) (hr : parseF s.data.toList = some r) : rxs (ss.take (k + 1)) = rxs (ss.take k) ++ [r] := by
  rw [List.take_add_one, h]; simp [rxs, hr]
theorem rxs_no {ss : List ByteArray} {k : Nat} {s : ByteArray} (h : ss[k]? = some s) (hr : parseF s.data.toList = none) : rxs (ss.take (k + 1)) = rxs (ss.take k) := by
  rw [List.take_add_one, h]; simp [rxs, hr]
theorem rxs_len (ss : List ByteArray) : (rxs ss).length ≤ ss.length := List.length_filterMap_le _ _
/-- What Rules answers. -/
def RuTo (ss : List ByteArray) (w : World) (e : Ending) (w' : World) : Prop := ∃ (va vb : Value) (bad : Nat) (bs : List Nat) (cb : List Value) (Q : Nat → Prop), e = .returned (.tuple #[va, vb, .int .i64 bad]) ∧ RuS w w' va (rxs ss) bs vb (rxs ss) cb Q ∧ ∀ r ∈ rxs ss, r.size ≤ 400
end Go.Proofs.YtejdfpieblkapaaGreatDoor
