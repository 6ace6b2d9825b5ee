/- Nodes and spots in memory; what part answers. -/
import Derived.Test.YtejdfpieblkapaaM1
import Derived.Test.YtejdfpieblkapaaProg
import Derived.WalkKit
import Derived.Lib.Hide
import Derived.Lib.Strings
import Derived.WalkSpells
import Derived.WalkLawsBesides
import Derived.BigQuiet
import Derived.Lib.OthersKept
import Derived.Deep.RegionHeld3
import Derived.Deep.AppendLies
namespace Go.Proofs.Ytejdfpieblkapaa
open Go.RowKit

theorem lt_of_heap {w : World} {k : Nat} {o : Obj} (h : w.heap[k]? = some o) : k < w.heap.size := by
  rcases Nat.lt_or_ge k w.heap.size with h' | h'
  · exact h'
  · simp [Array.getElem?_eq_none h'] at h
theorem below_tr {B B' : Nat} {a b c : World} (h1 : Below B a b) (h2 : Below B' b c) (h : B ≤ B') : Below B a c := h1.trans (h2.mono h)

/-- All blocks but these stand as they stood. -/
structure Kb (ex : Nat → Prop) (w w' : World) : Prop where
  os : w'.os = w.os
  tape : w'.tape = w.tape
  output : w'.output = w.output
  size : w.heap.size ≤ w'.heap.size
  block : ∀ i, i < w.heap.size → ¬ ex i → w'.heap[i]? = w.heap[i]?
theorem Kb.refl (ex : Nat → Prop) (w : World) : Kb ex w w := ⟨rfl, rfl, rfl, Nat.le_refl _, fun _ _ _ => rfl⟩
theorem Kb.trans {ex ex' : Nat → Prop} {a b c : World} (h : Kb ex a b) (k : Kb ex' b c) (hx : ∀ i, i < a.heap.size → ex' i → ex i) : Kb ex a c :=
  ⟨k.os.trans h.os, k.tape.trans h.tape, k.output.trans h.output, Nat.le_trans h.size k.size, fun i hi hn => (k.block i (Nat.lt_of_lt_of_le hi h.size) (fun h' => hn (hx i hi h'))).trans (h.block i hi hn)⟩
theorem Kb.wider {ex ex' : Nat → Prop} {w w' : World} (h : Kb ex w w') (hx : ∀ i, ex i → ex' i) : Kb ex' w w' := ⟨h.os, h.tape, h.output, h.size, fun i hi hn => h.block i hi (fun he => hn (hx i he))⟩
theorem Kb.of_grown {a b : World} {row : Option Nat} (h : a.grownBy b row) : Kb (fun i => some i = row) a b := ⟨h.os, h.tape, h.output, h.size, fun i hi hn => h.block i hi hn⟩
theorem Kb.of_below {a b : World} (ex : Nat → Prop) (h : Below a.heap.size a b) : Kb ex a b := ⟨h.os, h.tape, h.output, h.size, fun i hi _ => h.block i hi⟩
theorem Kb.setCell (w : World) (p : Addr) (v : Value) : Kb (fun i => i = p.block) w (w.setCell p v) := ⟨rfl, rfl, rfl, by simp [World.setCell], fun i _ hn => Below.heap_setCell w p v i hn⟩
theorem Kb.below {ex : Nat → Prop} {a b : World} {B : Nat} (h : Kb ex a b) (hB : B ≤ a.heap.size) (hx : ∀ i, ex i → B ≤ i) : Below B a b := ⟨h.os, h.tape, h.output, h.size, fun i hi => h.block i (by omega) (fun he => by have := hx i he; omega)⟩
theorem Kb.drew {ex : Nat → Prop} {w w' : World} (h : Kb ex w w') : Kb ex w w'.drew := ⟨h.os, h.tape, h.output, h.size, h.block⟩
theorem Kb.from_drew {ex : Nat → Prop} {w w' : World} (h : Kb ex w.drew w') : Kb ex w w' := ⟨h.os, h.tape, h.output, h.size, h.block⟩

abbrev ptr (b : Nat) : Value := .pointer (some ⟨b, 0, none⟩)
def ptrO : Option Nat → Value
  | none => .pointer none
  | some b => .pointer (some ⟨b, 0, none⟩)

def Rx.nul : Rx → Bool
  | .set _ => false
  | .empty => true
  | .cat a b => a.nul && b.nul
  | .or a b => a.nul || b.nul
  | .star _ => true
def Rx.kind : Rx → Nat
  | .set _ => 0
  | .empty => 1
  | .cat _ _ => 2
  | .or _ _ => 3
  | .star _ => 4
def Rx.ws : Rx → Ws
  | .set s => s
  | _ => ⟨0, 0, 0, 0⟩
def Rx.kids : Rx → Nat
  | .cat _ _ => 2
  | .or _ _ => 2
  | .star _ => 1
  | _ => 0

/-- A node's block. -/
def NdB (w : World) (e : Rx) (b : Nat) (P : Value) : Prop :=
  w.heap[b]? = some (.cells #[.int .i64 e.kind, .int .u64 e.ws.a, .int .u64 e.ws.b, .int .u64 e.ws.c, .int .u64 e.ws.d, P, .int .i64 e.size, .bool e.nul] 58 (0, 0))

/-- A node, with all that it is of. -/
def NdAt (w : World) : Rx → Nat → Prop
  | .set s, b => NdB w (.set s) b (.slice none 0 0)
  | .empty, b => NdB w .empty b (.slice none 0 0)
  | .cat x y, b => ∃ g bx bY, NdB w (.cat x y) b (.slice (some ⟨g, 0, none⟩) 2 2) ∧ w.heap[g]? = some (.cells #[ptr bx, ptr bY] 23 (0, 0)) ∧ NdAt w x bx ∧ NdAt w y bY
  | .or x y, b => ∃ g bx bY, NdB w (.or x y) b (.slice (some ⟨g, 0, none⟩) 2 2) ∧ w.heap[g]? = some (.cells #[ptr bx, ptr bY] 23 (0, 0)) ∧ NdAt w x bx ∧ NdAt w y bY
  | .star x, b => ∃ g bx, NdB w (.star x) b (.slice (some ⟨g, 0, none⟩) 1 1) ∧ w.heap[g]? = some (.cells #[ptr bx] 23 (0, 0)) ∧ NdAt w x bx

/-- Nodes stand as they stood. -/
def KN (w w' : World) : Prop := ∀ (i : Nat) (cs : Array Value) (t : TypeId) (fz : Nat × Nat), w.heap[i]? = some (Obj.cells cs t fz) → (t = 58 ∨ t = 23) → w'.heap[i]? = some (Obj.cells cs t fz)
theorem KN.refl (w : World) : KN w w := fun _ _ _ _ h _ => h
theorem KN.trans {a b c : World} (h : KN a b) (k : KN b c) : KN a c := fun i cs t fz hi ht => k i cs t fz (h i cs t fz hi ht) ht
theorem KN.of_below {w w' : World} (hb : Below w.heap.size w w') : KN w w' := fun i _ _ _ hi _ => (hb.block i (lt_of_heap hi)).trans hi
theorem Kb.kn {ex : Nat → Prop} {w w' : World} (h : Kb ex w w') (hx : ∀ i, ex i → ∀ (cs : Array Value) (t : TypeId) (fz : Nat × Nat), w.heap[i]? = some (Obj.cells cs t fz) → t ≠ 58 ∧ t ≠ 23) : KN w w' := by
  intro i cs t fz hi ht
  refine (h.block i (lt_of_heap hi) ?_).trans hi
  intro he
  have := hx i he cs t fz hi
  rcases ht with ht | ht
  · exact this.1 ht
  · exact this.2 ht

theorem NdAt.keep {w w' : World} (hk : KN w w') : ∀ {e : Rx} {b : Nat}, NdAt w e b → NdAt w' e b
  | .set _s, _b, h => hk _ _ _ _ h (.inl rfl)
  | .empty, _b, h => hk _ _ _ _ h (.inl rfl)
  | .cat _x _y, _b, ⟨g, bx, bY, h1, h2, h3, h4⟩ => ⟨g, bx, bY, hk _ _ _ _ h1 (.inl rfl), hk _ _ _ _ h2 (.inr rfl), NdAt.keep hk h3, NdAt.keep hk h4⟩
  | .or _x _y, _b, ⟨g, bx, bY, h1, h2, h3, h4⟩ => ⟨g, bx, bY, hk _ _ _ _ h1 (.inl rfl), hk _ _ _ _ h2 (.inr rfl), NdAt.keep hk h3, NdAt.keep hk h4⟩
  | .star _x, _b, ⟨g, bx, h1, h2, h3⟩ => ⟨g, bx, hk _ _ _ _ h1 (.inl rfl), hk _ _ _ _ h2 (.inr rfl), NdAt.keep hk h3⟩

theorem NdAt.blk {w : World} : ∀ {e : Rx} {b : Nat}, NdAt w e b → ∃ A n, NdB w e b (.slice A n n) ∧ n = e.kids
  | .set _s, _b, h => ⟨none, 0, h, rfl⟩
  | .empty, _b, h => ⟨none, 0, h, rfl⟩
  | .cat _x _y, _b, ⟨_g, _bx, _bY, h1, _⟩ => ⟨_, 2, h1, rfl⟩
  | .or _x _y, _b, ⟨_g, _bx, _bY, h1, _⟩ => ⟨_, 2, h1, rfl⟩
  | .star _x, _b, ⟨_g, _bx, h1, _⟩ => ⟨_, 1, h1, rfl⟩

/-- A node's part. -/
theorem NdAt.kid {w : World} : ∀ {e : Rx} {b k : Nat} {e' : Rx}, NdAt w e b → e.kid k = some e' → ∃ g n bk, NdB w e b (.slice (some ⟨g, 0, none⟩) n n) ∧ k < n ∧ w.cell? ⟨g, k, none⟩ = some (ptr bk) ∧ NdAt w e' bk
  | .cat x y, b, k, e', ⟨g, bx, bY, h1, h2, h3, h4⟩, hk => by
    rcases (show k = 0 ∨ k = 1 ∨ 2 ≤ k by omega) with rfl | rfl | h
    · have : x = e' := by simpa [Rx.kid] using hk
      subst this
      exact ⟨g, 2, bx, h1, by omega, by rw [Lib.cell_of_heap h2]; rfl, h3⟩
    · have : y = e' := by simpa [Rx.kid] using hk
      subst this
      exact ⟨g, 2, bY, h1, by omega, by rw [Lib.cell_of_heap h2]; rfl, h4⟩
    · match k, h, hk with
      | k + 2, _, hk => simp [Rx.kid] at hk
  | .or x y, b, k, e', ⟨g, bx, bY, h1, h2, h3, h4⟩, hk => by
    rcases (show k = 0 ∨ k = 1 ∨ 2 ≤ k by omega) with rfl | rfl | h
    · have : x = e' := by simpa [Rx.kid] using hk
      subst this
      exact ⟨g, 2, bx, h1, by omega, by rw [Lib.cell_of_heap h2]; rfl, h3⟩
    · have : y = e' := by simpa [Rx.kid] using hk
      subst this
      exact ⟨g, 2, bY, h1, by omega, by rw [Lib.cell_of_heap h2]; rfl, h4⟩
    · match k, h, hk with
      | k + 2, _, hk => simp [Rx.kid] at hk
  | .star x, b, k, e', ⟨g, bx, h1, h2, h3⟩, hk => by
    rcases (show k = 0 ∨ 1 ≤ k by omega) with rfl | h
    · have : x = e' := by simpa [Rx.kid] using hk
      subst this
      exact ⟨g, 1, bx, h1, by omega, by rw [Lib.cell_of_heap h2]; rfl, h3⟩
    · match k, h, hk with
      | k + 1, _, hk => simp [Rx.kid] at hk
  | .set s, b, k, e', _, hk => by simp [Rx.kid] at hk
  | .empty, b, k, e', _, hk => by simp [Rx.kid] at hk

/-- Where spots lie, and when they began and ended last. -/
structure Gh where
  σ : Path → Option Nat
  bg : Path → Nat
  en : Path → Nat

def Gh.up (g : Gh) : Path → Value
  | [] => .pointer none
  | _ :: p => ptrO (g.σ p)

/-- A spot's block. -/
def SpB (w : World) (g : Gh) (p : Path) (b nb : Nat) : Prop :=
  w.heap[b]? = some (.cells #[ptr nb, g.up p, ptrO (g.σ (0 :: p)), ptrO (g.σ (1 :: p)), .int .i64 (g.bg p), .int .i64 (g.en p), .slice none 0 0] 68 (0, 0))

structure SpAt (w : World) (r : Rx) (g : Gh) (root : Nat) : Prop where
  root : g.σ [] = some root
  at' : ∀ p b, g.σ p = some b → ∃ e nb, r.at p = some e ∧ NdAt w e nb ∧ SpB w g p b nb
  par : ∀ k p b, g.σ (k :: p) = some b → ∃ b', g.σ p = some b'
  inj : ∀ p q b, g.σ p = some b → g.σ q = some b → p = q
  new : ∀ p, g.σ p = none → g.bg p = 0 ∧ g.en p = 0
  low : ∀ p b b0, g.σ [] = some b0 → g.σ p = some b → b0 ≤ b

theorem SpAt.keep {w w' : World} {r : Rx} {g : Gh} {root : Nat} (h : SpAt w r g root) (hk : KN w w') (hs : ∀ (i : Nat) (cs : Array Value), w.heap[i]? = some (Obj.cells cs 68 (0, 0)) → w'.heap[i]? = some (Obj.cells cs 68 (0, 0))) : SpAt w' r g root :=
  ⟨h.root, fun p b hp => by
    obtain ⟨e, nb, h1, h2, h3⟩ := h.at' p b hp
    exact ⟨e, nb, h1, h2.keep hk, hs _ _ h3⟩, h.par, h.inj, h.new, h.low⟩
theorem SpAt.below {w w' : World} {r : Rx} {g : Gh} {root : Nat} (h : SpAt w r g root) (hb : Below w.heap.size w w') : SpAt w' r g root :=
  h.keep (KN.of_below hb) (fun i _ hi => (hb.block i (lt_of_heap hi)).trans hi)

def Gh.add (g : Gh) (q : Path) (b : Nat) : Gh := ⟨fun p => if p = q then some b else g.σ p, g.bg, g.en⟩

theorem Gh.add_ne (g : Gh) {p q : Path} (b : Nat) (h : p ≠ q) : (g.add q b).σ p = g.σ p := if_neg h
theorem Gh.add_eq (g : Gh) (q : Path) (b : Nat) : (g.add q b).σ q = some b := if_pos rfl
theorem nil_ne_cons (k : Nat) (p : Path) : ([] : Path) ≠ k :: p := by simp
theorem len_ne {p q : Path} (h : p.length ≠ q.length) : p ≠ q := fun e => h (by rw [e])

theorem set_heap (w : World) (b j : Nat) (cs : Array Value) (v : Value) (t : TypeId) (fz : Nat × Nat) (h : w.heap[b]? = some (.cells cs t fz)) : (w.setCell ⟨b, j, none⟩ v).heap[b]? = some (.cells (cs.set! j v) t fz) := by
  simp [World.setCell, Array.getElem?_modify, h]

/-- A part's spot is made. -/
theorem spat_add {w : World} {r : Rx} {g : Gh} {root b bk k : Nat} {p : Path} {e' : Rx} (h : SpAt w r g root) (hb : g.σ p = some b) (hq : g.σ (k :: p) = none) (hk : k < 2) (he : r.at (k :: p) = some e') (hn : NdAt w e' bk) :
    SpAt ((w.setCell ⟨b, 2 + k, none⟩ (ptr w.heap.size)).alloc (.cells #[ptr bk, ptr b, .pointer none, .pointer none, .int .i64 0, .int .i64 0, .slice none 0 0] 68)).drew r (g.add (k :: p) w.heap.size) root ∧ Kb (fun i => i = b) w ((w.setCell ⟨b, 2 + k, none⟩ (ptr w.heap.size)).alloc (.cells #[ptr bk, ptr b, .pointer none, .pointer none, .int .i64 0, .int .i64 0, .slice none 0 0] 68)).drew := by
  obtain ⟨w2, hw2⟩ : ∃ w2, w2 = ((w.setCell ⟨b, 2 + k, none⟩ (ptr w.heap.size)).alloc (.cells #[ptr bk, ptr b, .pointer none, .pointer none, .int .i64 0, .int .i64 0, .slice none 0 0] 68)).drew := ⟨_, rfl⟩
  have hsz : (w.setCell ⟨b, 2 + k, none⟩ (ptr w.heap.size)).heap.size = w.heap.size := by simp [World.setCell]
  have hkb : Kb (fun i => i = b) w w2 := by
    rw [hw2]
    have h1 := Kb.setCell w ⟨b, 2 + k, none⟩ (ptr w.heap.size)
    have h2 := Kb.of_below (fun i => i = b) ((Below.refl _ (w.setCell ⟨b, 2 + k, none⟩ (ptr w.heap.size))).alloc (Nat.le_refl _) (.cells #[ptr bk, ptr b, .pointer none, .pointer none, .int .i64 0, .int .i64 0, .slice none 0 0] 68))
    exact (h1.trans h2 (fun i _ h => h)).drew
  have hnew : w2.heap[w.heap.size]? = some (.cells #[ptr bk, ptr b, .pointer none, .pointer none, .int .i64 0, .int .i64 0, .slice none 0 0] 68 (0, 0)) := by
    rw [hw2]
    have := heap_alloc_new (w.setCell ⟨b, 2 + k, none⟩ (ptr w.heap.size)) (.cells #[ptr bk, ptr b, .pointer none, .pointer none, .int .i64 0, .int .i64 0, .slice none 0 0] 68)
    rw [hsz] at this
    exact this
  obtain ⟨eb, nb, hb1, hb2, hb3⟩ := h.at' p b hb
  have hold : w2.heap[b]? = some (.cells ((#[ptr nb, g.up p, ptrO (g.σ (0 :: p)), ptrO (g.σ (1 :: p)), .int .i64 (g.bg p), .int .i64 (g.en p), .slice none 0 0] : Array Value).set! (2 + k) (ptr w.heap.size)) 68 (0, 0)) := by
    rw [hw2]
    have h1 := set_heap w b (2 + k) _ (ptr w.heap.size) _ _ hb3
    have h2 := Below.heap_alloc (w.setCell ⟨b, 2 + k, none⟩ (ptr w.heap.size)) (.cells #[ptr bk, ptr b, .pointer none, .pointer none, .int .i64 0, .int .i64 0, .slice none 0 0] 68) b (by rw [hsz]; exact lt_of_heap hb3)
    exact h2.trans h1
  have hkn : KN w w2 := hkb.kn (fun i hi cs t fz hh => by
    subst hi
    unfold SpB at hb3
    rw [hb3] at hh
    injection hh with hh
    injection hh with _ h2
    rw [← h2]; decide)
  rw [← hw2]
  refine ⟨⟨?_, fun q c hc => ?_, fun j q c hc => ?_, fun q1 q2 c h1 h2 => ?_, fun q hqn => ?_, fun q c c0 hc0 hc => ?_⟩, hkb⟩
  · rw [Gh.add_ne _ _ (nil_ne_cons k p)]; exact h.root
  · by_cases hqq : q = k :: p
    · subst hqq
      have hc' : w.heap.size = c := by simpa [Gh.add] using hc
      subst hc'
      refine ⟨e', bk, he, hn.keep hkn, ?_⟩
      have hk0 : ∀ j, g.σ (j :: k :: p) = none := fun j => by
        cases hs : g.σ (j :: k :: p) with
        | none => rfl
        | some x => obtain ⟨y, hy⟩ := h.par _ _ _ hs; rw [hq] at hy; cases hy
      obtain ⟨z1, z2⟩ := h.new _ hq
      unfold SpB Gh.up Gh.add
      simp only [if_neg (len_ne (show p.length ≠ (k :: p).length by simp)), if_neg (len_ne (show (0 :: k :: p).length ≠ (k :: p).length by simp)), if_neg (len_ne (show (1 :: k :: p).length ≠ (k :: p).length by simp)), hk0, hb, z1, z2]
      exact hnew
    · have hc' : g.σ q = some c := by simpa [Gh.add, hqq] using hc
      obtain ⟨e, nc, h1, h2, h3⟩ := h.at' q c hc'
      refine ⟨e, nc, h1, h2.keep hkn, ?_⟩
      have hup : (g.add (k :: p) w.heap.size).up q = g.up q := by
        cases q with
        | nil => rfl
        | cons j q' =>
          show ptrO ((g.add (k :: p) w.heap.size).σ q') = ptrO (g.σ q')
          rw [Gh.add_ne]
          rintro rfl
          obtain ⟨y, hy⟩ := h.par _ _ _ hc'
          rw [hq] at hy; cases hy
      by_cases hqp : q = p
      · subst hqp
        rw [hb] at hc'
        injection hc' with hc'
        subst hc'
        have hnn : nc = nb := by
          unfold SpB at h3 hb3
          rw [h3] at hb3
          injection hb3 with hb3
          injection hb3 with hb3 _
          have := congrArg (fun a => a[0]?) hb3
          simpa using this
        subst hnn
        unfold SpB
        rw [hup, hold]
        rcases (show k = 0 ∨ k = 1 by omega) with rfl | rfl
        · simp [Gh.add, ptrO]
        · simp [Gh.add, ptrO]
      · have hcb : c ≠ b := fun e => hqp (h.inj _ _ _ (e ▸ hc') hb)
        have h3' := (hkb.block c (lt_of_heap h3) hcb).trans h3
        unfold SpB
        rw [hup, h3']
        have n0 : (0 :: q : Path) ≠ k :: p := fun e => hqp (by injection e)
        have n1 : (1 :: q : Path) ≠ k :: p := fun e => hqp (by injection e)
        simp [Gh.add, n0, n1]
  · by_cases hjq : (j :: q : Path) = k :: p
    · injection hjq with _ e2
      subst e2
      exact ⟨b, by rw [Gh.add_ne _ _ (len_ne (by simp))]; exact hb⟩
    · have hc' : g.σ (j :: q) = some c := by simpa [Gh.add, hjq] using hc
      obtain ⟨y, hy⟩ := h.par _ _ _ hc'
      by_cases hqq : q = k :: p
      · exact ⟨w.heap.size, by rw [hqq]; exact Gh.add_eq _ _ _⟩
      · exact ⟨y, by rw [Gh.add_ne _ _ hqq]; exact hy⟩
  · have hold' : ∀ q c, g.σ q = some c → c < w.heap.size := fun q c hc => by
      obtain ⟨_, _, _, _, h3⟩ := h.at' q c hc
      exact lt_of_heap h3
    by_cases e1 : q1 = k :: p
    · by_cases e2 : q2 = k :: p
      · rw [e1, e2]
      · have a1 : w.heap.size = c := by simpa [Gh.add, e1] using h1
        have a2 : g.σ q2 = some c := by simpa [Gh.add, e2] using h2
        have := hold' _ _ a2
        omega
    · have a1 : g.σ q1 = some c := by simpa [Gh.add, e1] using h1
      by_cases e2 : q2 = k :: p
      · have a2 : w.heap.size = c := by simpa [Gh.add, e2] using h2
        have := hold' _ _ a1
        omega
      · have a2 : g.σ q2 = some c := by simpa [Gh.add, e2] using h2
        exact h.inj _ _ _ a1 a2
  · by_cases hqq : q = k :: p
    · exfalso
      simp [Gh.add, hqq] at hqn
    · have : g.σ q = none := by simpa [Gh.add, hqq] using hqn
      exact h.new q this
  · rw [Gh.add_ne _ _ (nil_ne_cons k p)] at hc0
    by_cases hqq : q = k :: p
    · have hc' : w.heap.size = c := by simpa [Gh.add, hqq] using hc
      obtain ⟨_, _, _, _, h3⟩ := h.at' _ _ hc0
      have := lt_of_heap h3
      omega
    · have hc' : g.σ q = some c := by simpa [Gh.add, hqq] using hc
      exact h.low q c c0 hc0 hc'

/-- What part leaves: the part's spot, new or old. -/
def PartBack (r : Rx) (g : Gh) (root b : Nat) (q : Path) (w : World) (e : Ending) (w' : World) : Prop :=
  ∃ b' g', e = .returned (ptr b') ∧ g'.σ q = some b' ∧ g'.bg = g.bg ∧ g'.en = g.en ∧ (∀ p, p ≠ q → g'.σ p = g.σ p) ∧ SpAt w' r g' root ∧ Kb (fun i => i = b) w w' ∧ (∀ p c, g.σ p = some c → g'.σ p = some c)

set_option maxRecDepth 100000 in
set_option maxHeartbeats 2000000 in
theorem part0_any (r : Rx) (g : Gh) (root b : Nat) (p : Path) (e' : Rx) (w : World) (h : SpAt w r g root) (hb : g.σ p = some b) (he : r.at (0 :: p) = some e') :
    Calls Try.prog 65 #[ptr b, .int .i64 0] w (PartBack r g root b (0 :: p) w) := by
  obtain ⟨e, nb, h1, h2, h3⟩ := h.at' p b hb
  have hB := h3
  unfold SpB at h3
  have c2 : w.cell? ⟨b, 2, none⟩ = some (ptrO (g.σ (0 :: p))) := by rw [Lib.cell_of_heap h3]; rfl
  cases hq : g.σ (0 :: p) with
  | some b' =>
    rw [hq] at c2
    have c2' : w.cell? ⟨b, 2, none⟩ = some (.pointer (some ⟨b', 0, none⟩)) := c2
    have HH := Lib.hid h; have HQ := Lib.hid hq
    clear h h3 hB c2 hq
    go_enter Try.func65, Try.ntmps65
    go_wp2
    go_ret
    exact ⟨b', g, rfl, HQ.out, rfl, rfl, fun _ _ => rfl, HH.out, Kb.refl _ _, fun _ _ h => h⟩
  | none =>
    rw [hq] at c2
    have c2' : w.cell? ⟨b, 2, none⟩ = some (.pointer none) := c2
    have c0 : w.cell? ⟨b, 0, none⟩ = some (.pointer (some ⟨nb, 0, none⟩)) := by rw [Lib.cell_of_heap h3]; rfl
    have f2 : w.frozen? ⟨b, 2, none⟩ = false := Lib.frozen_of_heap h3 2
    rw [Rx.at_cons, h1] at he
    obtain ⟨gp, n, bk, k1, k2, k3, k4⟩ := h2.kid he
    have c5 : w.cell? ⟨nb, 5, none⟩ = some (.slice (some ⟨gp, 0, none⟩) n n) := by unfold NdB at k1; rw [Lib.cell_of_heap k1]; rfl
    have hbl := lt_of_heap h3
    have hnl := lt_of_heap k1
    have k2' : (0 : Int) < (n : Int) := by omega
    have HH := Lib.hid h; have HQ := Lib.hid hq; have H4 := Lib.hid k4; have HB := Lib.hid hB; have HE := Lib.hid he; have H1 := Lib.hid h1; have H2 := Lib.hid h2
    clear h h3 hB c2 hq h2 k1 k4 he h1
    go_enter Try.func65, Try.ntmps65
    go_wp2
    go_region
    obtain ⟨hs, hkb⟩ := spat_add (k := 0) HH.out hb HQ.out (by omega) (by rw [Rx.at_cons, H1.out]; exact HE.out) H4.out
    have HS := Lib.hid hs; have HK := Lib.hid hkb
    clear hs hkb
    go_wp2
    go_ret
    refine ⟨w.heap.size, g.add (0 :: p) w.heap.size, rfl, by simp [Gh.add], rfl, rfl, fun q hq => by simp [Gh.add, hq], HS.out, HK.out, fun q c hc => ?_⟩
    by_cases hqq : q = 0 :: p
    · rw [hqq, HQ.out] at hc; cases hc
    · simp [Gh.add, hqq, hc]

set_option maxRecDepth 100000 in
set_option maxHeartbeats 2000000 in
theorem part1_any (r : Rx) (g : Gh) (root b : Nat) (p : Path) (e' : Rx) (w : World) (h : SpAt w r g root) (hb : g.σ p = some b) (he : r.at (1 :: p) = some e') :
    Calls Try.prog 65 #[ptr b, .int .i64 1] w (PartBack r g root b (1 :: p) w) := by
  obtain ⟨e, nb, h1, h2, h3⟩ := h.at' p b hb
  have hB := h3
  unfold SpB at h3
  have c2 : w.cell? ⟨b, 3, none⟩ = some (ptrO (g.σ (1 :: p))) := by rw [Lib.cell_of_heap h3]; rfl
  cases hq : g.σ (1 :: p) with
  | some b' =>
    rw [hq] at c2
    have c2' : w.cell? ⟨b, 3, none⟩ = some (.pointer (some ⟨b', 0, none⟩)) := c2
    have HH := Lib.hid h; have HQ := Lib.hid hq
    clear h h3 hB c2 hq
    go_enter Try.func65, Try.ntmps65
    go_wp2
    go_ret
    exact ⟨b', g, rfl, HQ.out, rfl, rfl, fun _ _ => rfl, HH.out, Kb.refl _ _, fun _ _ h => h⟩
  | none =>
    rw [hq] at c2
    have c2' : w.cell? ⟨b, 3, none⟩ = some (.pointer none) := c2
    have c0 : w.cell? ⟨b, 0, none⟩ = some (.pointer (some ⟨nb, 0, none⟩)) := by rw [Lib.cell_of_heap h3]; rfl
    have f2 : w.frozen? ⟨b, 3, none⟩ = false := Lib.frozen_of_heap h3 3
    rw [Rx.at_cons, h1] at he
    obtain ⟨gp, n, bk, k1, k2, k3, k4⟩ := h2.kid he
    have c5 : w.cell? ⟨nb, 5, none⟩ = some (.slice (some ⟨gp, 0, none⟩) n n) := by unfold NdB at k1; rw [Lib.cell_of_heap k1]; rfl
    have hbl := lt_of_heap h3
    have hnl := lt_of_heap k1
    have k2' : (1 : Int) < (n : Int) := by omega
    have HH := Lib.hid h; have HQ := Lib.hid hq; have H4 := Lib.hid k4; have HB := Lib.hid hB; have HE := Lib.hid he; have H1 := Lib.hid h1; have H2 := Lib.hid h2
    clear h h3 hB c2 hq h2 k1 k4 he h1
    go_enter Try.func65, Try.ntmps65
    go_wp2
    go_region
    obtain ⟨hs, hkb⟩ := spat_add (k := 1) HH.out hb HQ.out (by omega) (by rw [Rx.at_cons, H1.out]; exact HE.out) H4.out
    have HS := Lib.hid hs; have HK := Lib.hid hkb
    clear hs hkb
    go_wp2
    go_ret
    refine ⟨w.heap.size, g.add (1 :: p) w.heap.size, rfl, by simp [Gh.add], rfl, rfl, fun q hq => by simp [Gh.add, hq], HS.out, HK.out, fun q c hc => ?_⟩
    by_cases hqq : q = 1 :: p
    · rw [hqq, HQ.out] at hc; cases hc
    · simp [Gh.add, hqq, hc]
end Go.Proofs.Ytejdfpieblkapaa
