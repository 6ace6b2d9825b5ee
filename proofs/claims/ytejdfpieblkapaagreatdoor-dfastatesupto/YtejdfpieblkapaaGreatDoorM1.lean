/- Carried from another seat. -/
import Derived.Below
import Derived.Test.YtejdfpieblkapaaGreatDoorProg
import Derived.WalkKit
import Derived.Lib.Hide
import Derived.Lib.Strings
import Derived.WalkSpells
import Derived.WalkLawsBesides
import Derived.BigQuiet
import Derived.Lib.OthersKept
import Derived.Deep.RegionHeld3
import Derived.Deep.AppendLies
import Derived.Deep.RegionLaw
import Derived.Deep.LoopGhost
import Derived.Laws.IdiomStrings
namespace Go.Proofs.YtejdfpieblkapaaGreatDoor


structure Ws where
 a : Nat
 b : Nat
 c : Nat
 d : Nat
 deriving DecidableEq, Inhabited

def Ws.word (s : Ws) : Nat → Nat
 | 0 => s.a
 | 1 => s.b
 | 2 => s.c
 | _ => s.d
def Ws.has (s : Ws) (x : UInt8) : Bool := s.word (x.toNat / 64) / 2 ^ (x.toNat % 64) % 2 == 1

inductive Rx where
 | set (s : Ws)
 | empty
 | cat (a b : Rx)
 | or (a b : Rx)
 | star (a : Rx)
 deriving Inhabited

inductive Many (P : List UInt8 → Prop) : List UInt8 → Prop
 | nil : Many P []
 | cons (x y : List UInt8) : P x → Many P y → Many P (x ++ y)

def Rx.L : Rx → List UInt8 → Prop
 | .set s, u => ∃ c, u = [c] ∧ s.has c = true
 | .empty, u => u = []
 | .cat a b, u => ∃ x y, u = x ++ y ∧ a.L x ∧ b.L y
 | .or a b, u => a.L u ∨ b.L u
 | .star a, u => Many a.L u

def Rx.size : Rx → Nat
 | .set _ => 1
 | .empty => 1
 | .cat a b => 1 + a.size + b.size
 | .or a b => 1 + a.size + b.size
 | .star a => 1 + a.size

abbrev Path := List Nat

def Rx.kid : Rx → Nat → Option Rx
 | .cat a _, 0 => some a
 | .cat _ b, 1 => some b
 | .or a _, 0 => some a
 | .or _ b, 1 => some b
 | .star a, 0 => some a
 | _, _ => none

def Rx.at (r : Rx) : Path → Option Rx
 | [] => some r
 | k :: p => (r.at p).bind (·.kid k)

inductive Cl (r : Rx) (s0 : Bool → Path → Prop) : Bool → Path → Prop
 | seed (d : Bool) (p : Path) : s0 d p → Cl r s0 d p
 | empty (p : Path) : r.at p = some .empty → Cl r s0 true p → Cl r s0 false p
 | cat0 (p : Path) (a b : Rx) : r.at p = some (.cat a b) → Cl r s0 true p → Cl r s0 true (0 :: p)
 | cat1 (p : Path) (a b : Rx) : r.at p = some (.cat a b) → Cl r s0 false (0 :: p) → Cl r s0 true (1 :: p)
 | cat2 (p : Path) (a b : Rx) : r.at p = some (.cat a b) → Cl r s0 false (1 :: p) → Cl r s0 false p
 | or0 (p : Path) (a b : Rx) : r.at p = some (.or a b) → Cl r s0 true p → Cl r s0 true (0 :: p)
 | or1 (p : Path) (a b : Rx) : r.at p = some (.or a b) → Cl r s0 true p → Cl r s0 true (1 :: p)
 | or2 (p : Path) (a b : Rx) (k : Nat) : r.at p = some (.or a b) → k < 2 → Cl r s0 false (k :: p) → Cl r s0 false p
 | star0 (p : Path) (a : Rx) : r.at p = some (.star a) → Cl r s0 true p → Cl r s0 false p
 | star1 (p : Path) (a : Rx) : r.at p = some (.star a) → Cl r s0 true p → Cl r s0 true (0 :: p)
 | star2 (p : Path) (a : Rx) : r.at p = some (.star a) → Cl r s0 false (0 :: p) → Cl r s0 true p

def X (r : Rx) : List UInt8 → Bool → Path → Prop
 | [] => Cl r (fun d p => d = true ∧ p = [])
 | c :: u => Cl r (fun d p => d = false ∧ ∃ s, r.at p = some (.set s) ∧ s.has c = true ∧ X r u true p)

def Seed (r : Rx) : List UInt8 → Bool → Path → Prop
 | [] => fun d p => d = true ∧ p = []
 | c :: u => fun d p => d = false ∧ ∃ s, r.at p = some (.set s) ∧ s.has c = true ∧ X r u true p
def Lf (r : Rx) : Path → List UInt8 → Prop
 | [], u => u = []
 | k :: p, u => match r.at p, k with
  | some (.cat _ _), 0 => Lf r p u
  | some (.cat a _), 1 => ∃ x y, u = x ++ y ∧ Lf r p x ∧ a.L y
  | some (.or _ _), _ => Lf r p u
  | some (.star a), _ => ∃ x y, u = x ++ y ∧ Lf r p x ∧ Many a.L y
  | _, _ => False

def Bx (r : Rx) (p : Path) (u : List UInt8) : Prop := match r.at p with
 | some (.star a) => ∃ x y, u = x ++ y ∧ Lf r p x ∧ Many a.L y
 | some _ => Lf r p u
 | none => False
def Ex (r : Rx) (p : Path) (u : List UInt8) : Prop := ∃ e, r.at p = some e ∧ ∃ x y, u = x ++ y ∧ Lf r p x ∧ e.L y

def Rx.all : Rx → List Path
 | .set _ => [[]]
 | .empty => [[]]
 | .cat a b => [] :: (a.all.map (· ++ [0]) ++ b.all.map (· ++ [1]))
 | .or a b => [] :: (a.all.map (· ++ [0]) ++ b.all.map (· ++ [1]))
 | .star a => [] :: a.all.map (· ++ [0])
end Go.Proofs.YtejdfpieblkapaaGreatDoor

/- Carried from another seat. -/
namespace Go.Proofs.YtejdfpieblkapaaGreatDoor
open Go.RowKit


theorem lt_of_heap {w : World} {k : Nat} {o : Obj} (h : w.heap[k]? = some o) : k < w.heap.size := by
 rcases Nat.lt_or_ge k w.heap.size with h' | h'
 ·exact h'
 ·simp [Array.getElem?_eq_none h'] at h
theorem below_tr {B B' : Nat} {a b c : World} (h1 : Below B a b) (h2 : Below B' b c) (h : B ≤ B') : Below B a c := h1.trans (h2.mono h)

structure Kb (ex : Nat → Prop) (w w' : World) : Prop where
 os : w'.os = w.os
 tape : w'.tape = w.tape
 output : w'.output = w.output
 size : w.heap.size ≤ w'.heap.size
 block : ∀ i, i < w.heap.size → ¬ ex i → w'.heap[i]? = w.heap[i]?
theorem Kb.refl (ex : Nat → Prop) (w : World) : Kb ex w w := ⟨rfl, rfl, rfl, Nat.le_refl _, fun _ _ _ => rfl⟩
theorem Kb.trans {ex ex' : Nat → Prop} {a b c : World} (h : Kb ex a b) (k : Kb ex' b c) (hx : ∀ i, i < a.heap.size → ex' i → ex i) : Kb ex a c :=
 ⟨k.os.trans h.os, k.tape.trans h.tape, k.output.trans h.output, Nat.le_trans h.size k.size, fun i hi hn => (k.block i (Nat.lt_of_lt_of_le hi h.size) (fun h' => hn (hx i hi h'))).trans (h.block i hi hn)⟩
theorem Kb.wider {ex ex' : Nat → Prop} {w w' : World} (h : Kb ex w w') (hx : ∀ i, ex i → ex' i) : Kb ex' w w' := ⟨h.os, h.tape, h.output, h.size, fun i hi hn => h.block i hi (fun he => hn (hx i he))⟩
theorem Kb.of_grown {a b : World} {row : Option Nat} (h : a.grownBy b row) : Kb (fun i => some i = row) a b := ⟨h.os, h.tape, h.output, h.size, fun i hi hn => h.block i hi hn⟩
theorem Kb.of_below {a b : World} (ex : Nat → Prop) (h : Below a.heap.size a b) : Kb ex a b := ⟨h.os, h.tape, h.output, h.size, fun i hi _ => h.block i hi⟩
theorem Kb.setCell (w : World) (p : Addr) (v : Value) : Kb (fun i => i = p.block) w (w.setCell p v) := ⟨rfl, rfl, rfl, by simp [World.setCell], fun i _ hn => Below.heap_setCell w p v i hn⟩
theorem Kb.below {ex : Nat → Prop} {a b : World} {B : Nat} (h : Kb ex a b) (hB : B ≤ a.heap.size) (hx : ∀ i, ex i → B ≤ i) : Below B a b := ⟨h.os, h.tape, h.output, h.size, fun i hi => h.block i (by omega) (fun he => by have := hx i he; omega)⟩
theorem Kb.drew {ex : Nat → Prop} {w w' : World} (h : Kb ex w w') : Kb ex w w'.drew := ⟨h.os, h.tape, h.output, h.size, h.block⟩
theorem Kb.from_drew {ex : Nat → Prop} {w w' : World} (h : Kb ex w.drew w') : Kb ex w w' := ⟨h.os, h.tape, h.output, h.size, h.block⟩

abbrev ptr (b : Nat) : Value := .pointer (some ⟨b, 0, none⟩)
def ptrO : Option Nat → Value
 | none => .pointer none
 | some b => .pointer (some ⟨b, 0, none⟩)

def Rx.nul : Rx → Bool
 | .set _ => false
 | .empty => true
 | .cat a b => a.nul && b.nul
 | .or a b => a.nul || b.nul
 | .star _ => true
def Rx.kind : Rx → Nat
 | .set _ => 0
 | .empty => 1
 | .cat _ _ => 2
 | .or _ _ => 3
 | .star _ => 4
def Rx.ws : Rx → Ws
 | .set s => s
 | _ => ⟨0, 0, 0, 0⟩
def Rx.kids : Rx → Nat
 | .cat _ _ => 2
 | .or _ _ => 2
 | .star _ => 1
 | _ => 0

def NdB (w : World) (e : Rx) (b : Nat) (P : Value) : Prop :=
 w.heap[b]? = some (.cells #[.int .i64 e.kind, .int .u64 e.ws.a, .int .u64 e.ws.b, .int .u64 e.ws.c, .int .u64 e.ws.d, P, .int .i64 e.size, .bool e.nul] 128 (0, 0))

def NdAt (w : World) : Rx → Nat → Prop
 | .set s, b => NdB w (.set s) b (.slice none 0 0)
 | .empty, b => NdB w .empty b (.slice none 0 0)
 | .cat x y, b => ∃ g bx bY, NdB w (.cat x y) b (.slice (some ⟨g, 0, none⟩) 2 2) ∧ w.heap[g]? = some (.cells #[ptr bx, ptr bY] 68 (0, 0)) ∧ NdAt w x bx ∧ NdAt w y bY
 | .or x y, b => ∃ g bx bY, NdB w (.or x y) b (.slice (some ⟨g, 0, none⟩) 2 2) ∧ w.heap[g]? = some (.cells #[ptr bx, ptr bY] 68 (0, 0)) ∧ NdAt w x bx ∧ NdAt w y bY
 | .star x, b => ∃ g bx, NdB w (.star x) b (.slice (some ⟨g, 0, none⟩) 1 1) ∧ w.heap[g]? = some (.cells #[ptr bx] 68 (0, 0)) ∧ NdAt w x bx

def KN (w w' : World) : Prop := ∀ (i : Nat) (cs : Array Value) (t : TypeId) (fz : Nat × Nat), w.heap[i]? = some (Obj.cells cs t fz) → (t = 128 ∨ t = 68) → w'.heap[i]? = some (Obj.cells cs t fz)
theorem KN.trans {a b c : World} (h : KN a b) (k : KN b c) : KN a c := fun i cs t fz hi ht => k i cs t fz (h i cs t fz hi ht) ht
theorem KN.of_below {w w' : World} (hb : Below w.heap.size w w') : KN w w' := fun i _ _ _ hi _ => (hb.block i (lt_of_heap hi)).trans hi
theorem Kb.kn {ex : Nat → Prop} {w w' : World} (h : Kb ex w w') (hx : ∀ i, ex i → ∀ (cs : Array Value) (t : TypeId) (fz : Nat × Nat), w.heap[i]? = some (Obj.cells cs t fz) → t ≠ 128 ∧ t ≠ 68) : KN w w' := by
 intro i cs t fz hi ht
 refine (h.block i (lt_of_heap hi) ?_).trans hi
 intro he
 have := hx i he cs t fz hi
 rcases ht with ht | ht
 ·exact this.1 ht
 ·exact this.2 ht

theorem NdAt.keep {w w' : World} (hk : KN w w') : ∀ {e : Rx} {b : Nat}, NdAt w e b → NdAt w' e b
 | .set _s, _b, h => hk _ _ _ _ h (.inl rfl)
 | .empty, _b, h => hk _ _ _ _ h (.inl rfl)
 | .cat _x _y, _b, ⟨g, bx, bY, h1, h2, h3, h4⟩ => ⟨g, bx, bY, hk _ _ _ _ h1 (.inl rfl), hk _ _ _ _ h2 (.inr rfl), NdAt.keep hk h3, NdAt.keep hk h4⟩
 | .or _x _y, _b, ⟨g, bx, bY, h1, h2, h3, h4⟩ => ⟨g, bx, bY, hk _ _ _ _ h1 (.inl rfl), hk _ _ _ _ h2 (.inr rfl), NdAt.keep hk h3, NdAt.keep hk h4⟩
 | .star _x, _b, ⟨g, bx, h1, h2, h3⟩ => ⟨g, bx, hk _ _ _ _ h1 (.inl rfl), hk _ _ _ _ h2 (.inr rfl), NdAt.keep hk h3⟩

theorem NdAt.blk {w : World} : ∀ {e : Rx} {b : Nat}, NdAt w e b → ∃ A n, NdB w e b (.slice A n n) ∧ n = e.kids
 | .set _s, _b, h => ⟨none, 0, h, rfl⟩
 | .empty, _b, h => ⟨none, 0, h, rfl⟩
 | .cat _x _y, _b, ⟨_g, _bx, _bY, h1, _⟩ => ⟨_, 2, h1, rfl⟩
 | .or _x _y, _b, ⟨_g, _bx, _bY, h1, _⟩ => ⟨_, 2, h1, rfl⟩
 | .star _x, _b, ⟨_g, _bx, h1, _⟩ => ⟨_, 1, h1, rfl⟩

theorem set_heap (w : World) (b j : Nat) (cs : Array Value) (v : Value) (t : TypeId) (fz : Nat × Nat) (h : w.heap[b]? = some (.cells cs t fz)) : (w.setCell ⟨b, j, none⟩ v).heap[b]? = some (.cells (cs.set! j v) t fz) := by
 simp [World.setCell, Array.getElem?_modify, h]

theorem own_form {w : World} {base e size n : Nat} {v : Value} {xs : List Value} (h : w.ownsRow base e size v n xs) : ∃ A c, v = .slice A n c ∧ n ≤ c ∧ c ≤ 9223372036854775807 := by
 rcases h.2 with ⟨hv, hn⟩ | ⟨g, cap, cur, hv, _, _, h1, h2, _⟩
 ·exact ⟨none, 0, by rw [hv, hn], by omega, by omega⟩
 ·exact ⟨_, _, hv, h1, by unfold maxLen at h2; omega⟩
theorem own_kb {ex : Nat → Prop} {w w' : World} {base e size n : Nat} {v : Value} {xs : List Value} (h : w.ownsRow base e size v n xs) (hk : Kb ex w w') (hx : ∀ g, v.ownBlock = some g → ¬ ex g) : w'.ownsRow base e size v n xs := by
 refine ⟨h.1, ?_⟩
 rcases h.2 with hn | ⟨g, cap, cur, rfl, hb, hgg, rest⟩
 ·exact .inl hn
 ·exact .inr ⟨g, cap, cur, rfl, hb, (hk.block g (lt_of_heap hgg) (hx g rfl)).trans hgg, rest⟩
theorem own_ty {w : World} {base e size n : Nat} {v : Value} {xs : List Value} (h : w.ownsRow base e size v n xs) {g : Nat} (hg : v.ownBlock = some g) : base ≤ g ∧ ∃ cs, w.heap[g]? = some (.cells cs e (0, 0)) := by
 rcases h.2 with ⟨hv, _⟩ | ⟨g', cap, cur, hv, hbb, hgg, _⟩
 ·rw [hv] at hg; simp [Value.ownBlock] at hg
 ·rw [hv] at hg
  have : g' = g := by simpa [Value.ownBlock] using hg
  subst this
  exact ⟨hbb, cur, hgg⟩
theorem own_not {w : World} {base e size n b t : Nat} {v : Value} {xs : List Value} {cs : Array Value} {fz : Nat × Nat} (h : w.ownsRow base e size v n xs) (hb : w.heap[b]? = some (.cells cs t fz)) (ht : t ≠ e) : some b ≠ v.ownBlock := by
 intro hg
 obtain ⟨_, cs', hc⟩ := own_ty h hg.symm
 rw [hb] at hc
 injection hc with hc
 injection hc with _ h2
 exact ht h2

theorem below_drewN (B : Nat) (w : World) (n : Nat) : Below B w (w.drewN n) := ⟨rfl, rfl, rfl, Nat.le_refl _, fun _ _ => rfl⟩
theorem grown_kb {w w6 : World} {o : Obj} {row : Option Nat} (h : (w.alloc o).grownBy w6 row) : Kb (fun i => some i = row) w w6 := (Kb.of_below _ ((Below.refl _ w).alloc (Nat.le_refl _) o)).trans (Kb.of_grown h) (fun _ _ h => h)
end Go.Proofs.YtejdfpieblkapaaGreatDoor
