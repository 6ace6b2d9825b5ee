/- Carried from another seat. -/
import Derived.Below
namespace Go.Proofs.YtejdfpieblkapaaGreatDoor


/-- The four words of a set. -/
structure Ws where
  a : Nat
  b : Nat
  c : Nat
  d : Nat
  deriving DecidableEq, Inhabited

def Ws.word (s : Ws) : Nat → Nat
  | 0 => s.a
  | 1 => s.b
  | 2 => s.c
  | _ => s.d
/-- Is a byte in the set? -/
def Ws.has (s : Ws) (x : UInt8) : Bool := s.word (x.toNat / 64) / 2 ^ (x.toNat % 64) % 2 == 1

inductive Rx where
  | set (s : Ws)
  | empty
  | cat (a b : Rx)
  | or (a b : Rx)
  | star (a : Rx)
  deriving Inhabited

inductive Many (P : List UInt8 → Prop) : List UInt8 → Prop
  | nil : Many P []
  | cons (x y : List UInt8) : P x → Many P y → Many P (x ++ y)

/-- What an expression means. -/
def Rx.L : Rx → List UInt8 → Prop
  | .set s, u => ∃ c, u = [c] ∧ s.has c = true
  | .empty, u => u = []
  | .cat a b, u => ∃ x y, u = x ++ y ∧ a.L x ∧ b.L y
  | .or a b, u => a.L u ∨ b.L u
  | .star a, u => Many a.L u

theorem Many.snoc {P : List UInt8 → Prop} {x y : List UInt8} (hx : Many P x) (hy : P y) : Many P (x ++ y) := by
  induction hx with
  | nil => simpa using Many.cons y [] hy .nil
  | cons a b ha _ ih => rw [List.append_assoc]; exact .cons a _ ha ih

def Rx.size : Rx → Nat
  | .set _ => 1
  | .empty => 1
  | .cat a b => 1 + a.size + b.size
  | .or a b => 1 + a.size + b.size
  | .star a => 1 + a.size

/-- A place in an expression: the steps to it, the last one first. -/
abbrev Path := List Nat

def Rx.kid : Rx → Nat → Option Rx
  | .cat a _, 0 => some a
  | .cat _ b, 1 => some b
  | .or a _, 0 => some a
  | .or _ b, 1 => some b
  | .star a, 0 => some a
  | _, _ => none

def Rx.at (r : Rx) : Path → Option Rx
  | [] => some r
  | k :: p => (r.at p).bind (·.kid k)

theorem Rx.at_cons (r : Rx) (k : Nat) (p : Path) : r.at (k :: p) = (r.at p).bind (·.kid k) := rfl

/-- What follows, at one place of the text: (true, p): the part at p begins there; (false, p): it ends there. -/
inductive Cl (r : Rx) (s0 : Bool → Path → Prop) : Bool → Path → Prop
  | seed (d : Bool) (p : Path) : s0 d p → Cl r s0 d p
  | empty (p : Path) : r.at p = some .empty → Cl r s0 true p → Cl r s0 false p
  | cat0 (p : Path) (a b : Rx) : r.at p = some (.cat a b) → Cl r s0 true p → Cl r s0 true (0 :: p)
  | cat1 (p : Path) (a b : Rx) : r.at p = some (.cat a b) → Cl r s0 false (0 :: p) → Cl r s0 true (1 :: p)
  | cat2 (p : Path) (a b : Rx) : r.at p = some (.cat a b) → Cl r s0 false (1 :: p) → Cl r s0 false p
  | or0 (p : Path) (a b : Rx) : r.at p = some (.or a b) → Cl r s0 true p → Cl r s0 true (0 :: p)
  | or1 (p : Path) (a b : Rx) : r.at p = some (.or a b) → Cl r s0 true p → Cl r s0 true (1 :: p)
  | or2 (p : Path) (a b : Rx) (k : Nat) : r.at p = some (.or a b) → k < 2 → Cl r s0 false (k :: p) → Cl r s0 false p
  | star0 (p : Path) (a : Rx) : r.at p = some (.star a) → Cl r s0 true p → Cl r s0 false p
  | star1 (p : Path) (a : Rx) : r.at p = some (.star a) → Cl r s0 true p → Cl r s0 true (0 :: p)
  | star2 (p : Path) (a : Rx) : r.at p = some (.star a) → Cl r s0 false (0 :: p) → Cl r s0 true p

/-- What begins and ends behind the bytes u, the last one first. -/
def X (r : Rx) : List UInt8 → Bool → Path → Prop
  | [] => Cl r (fun d p => d = true ∧ p = [])
  | c :: u => Cl r (fun d p => d = false ∧ ∃ s, r.at p = some (.set s) ∧ s.has c = true ∧ X r u true p)

/-- The seeds at a place. -/
def Seed (r : Rx) : List UInt8 → Bool → Path → Prop
  | [] => fun d p => d = true ∧ p = []
  | c :: u => fun d p => d = false ∧ ∃ s, r.at p = some (.set s) ∧ s.has c = true ∧ X r u true p
theorem X_eq (r : Rx) (u : List UInt8) : X r u = Cl r (Seed r u) := by cases u <;> rfl

/-- What begins, and means v, ends behind v. -/
theorem X_complete (r : Rx) : ∀ (e : Rx) (p : Path) (u v : List UInt8), r.at p = some e → X r u true p → e.L v → X r (v.reverse ++ u) false p
  | .set s, p, u, v, he, hb, hv => by
    obtain ⟨c, rfl, hc⟩ := hv
    exact Cl.seed _ _ ⟨rfl, s, he, hc, hb⟩
  | .empty, p, u, v, he, hb, hv => by
    cases hv
    rw [List.reverse_nil, List.nil_append, X_eq] at *
    exact Cl.empty p he hb
  | .cat a b, p, u, v, he, hb, hv => by
    obtain ⟨x, y, rfl, hx, hy⟩ := hv
    have h0 : X r u true (0 :: p) := by rw [X_eq] at *; exact Cl.cat0 p a b he hb
    have h1 := X_complete r a (0 :: p) u x (by rw [Rx.at_cons, he]; rfl) h0 hx
    have h2 : X r (x.reverse ++ u) true (1 :: p) := by rw [X_eq] at *; exact Cl.cat1 p a b he h1
    have h3 := X_complete r b (1 :: p) _ y (by rw [Rx.at_cons, he]; rfl) h2 hy
    rw [List.reverse_append, List.append_assoc, X_eq] at *
    exact Cl.cat2 p a b he h3
  | .or a b, p, u, v, he, hb, hv => by
    rcases hv with hv | hv
    · have h0 : X r u true (0 :: p) := by rw [X_eq] at *; exact Cl.or0 p a b he hb
      have h1 := X_complete r a (0 :: p) u v (by rw [Rx.at_cons, he]; rfl) h0 hv
      rw [X_eq] at *
      exact Cl.or2 p a b 0 he (by omega) h1
    · have h0 : X r u true (1 :: p) := by rw [X_eq] at *; exact Cl.or1 p a b he hb
      have h1 := X_complete r b (1 :: p) u v (by rw [Rx.at_cons, he]; rfl) h0 hv
      rw [X_eq] at *
      exact Cl.or2 p a b 1 he (by omega) h1
  | .star a, p, u, v, he, hb, hv => by
    have hv' : Many a.L v := hv
    clear hv
    induction hv' generalizing u with
    | nil => rw [List.reverse_nil, List.nil_append, X_eq] at *; exact Cl.star0 p a he hb
    | cons x y hx _ ih =>
      have h0 : X r u true (0 :: p) := by rw [X_eq] at *; exact Cl.star1 p a he hb
      have h1 := X_complete r a (0 :: p) u x (by rw [Rx.at_cons, he]; rfl) h0 hx
      have h2 : X r (x.reverse ++ u) true p := by rw [X_eq] at *; exact Cl.star2 p a he h1
      have h3 := ih _ h2
      rw [List.reverse_append, List.append_assoc]
      exact h3

/-- What may stand ahead of a place. -/
def Lf (r : Rx) : Path → List UInt8 → Prop
  | [], u => u = []
  | k :: p, u => match r.at p, k with
    | some (.cat _ _), 0 => Lf r p u
    | some (.cat a _), 1 => ∃ x y, u = x ++ y ∧ Lf r p x ∧ a.L y
    | some (.or _ _), _ => Lf r p u
    | some (.star a), _ => ∃ x y, u = x ++ y ∧ Lf r p x ∧ Many a.L y
    | _, _ => False

def Bx (r : Rx) (p : Path) (u : List UInt8) : Prop := match r.at p with
  | some (.star a) => ∃ x y, u = x ++ y ∧ Lf r p x ∧ Many a.L y
  | some _ => Lf r p u
  | none => False
def Ex (r : Rx) (p : Path) (u : List UInt8) : Prop := ∃ e, r.at p = some e ∧ ∃ x y, u = x ++ y ∧ Lf r p x ∧ e.L y

theorem Bx_of_Lf {r : Rx} {p : Path} {u : List UInt8} {e : Rx} (he : r.at p = some e) (h : Lf r p u) : Bx r p u := by
  unfold Bx
  rw [he]
  cases e with
  | star a => exact ⟨u, [], by simp, h, .nil⟩
  | _ => exact h

theorem Cl_sound {r : Rx} {s0 : Bool → Path → Prop} {u : List UInt8} (hb : ∀ p, s0 true p → Bx r p u) (he : ∀ p, s0 false p → Ex r p u) {d : Bool} {p : Path} (h : Cl r s0 d p) : if d = true then Bx r p u else Ex r p u := by
  induction h with
  | seed d p hs =>
    cases d
    · exact he p hs
    · exact hb p hs
  | empty p ha _ ih =>
    have ih' : Lf r p u := by have := ih; simp only [if_true] at this; unfold Bx at this; rw [ha] at this; exact this
    exact ⟨_, ha, u, [], by simp, ih', rfl⟩
  | cat0 p a b ha _ ih =>
    have ih' : Lf r p u := by have := ih; simp only [if_true] at this; unfold Bx at this; rw [ha] at this; exact this
    exact Bx_of_Lf (e := a) (by rw [Rx.at_cons, ha]; rfl) (by unfold Lf; rw [ha]; exact ih')
  | cat1 p a b ha _ ih =>
    obtain ⟨e, hee, x, y, hu, hx, hy⟩ := ih
    rw [Rx.at_cons, ha] at hee
    have : a = e := by simpa [Rx.kid] using hee
    subst this
    unfold Lf at hx
    rw [ha] at hx
    exact Bx_of_Lf (e := b) (by rw [Rx.at_cons, ha]; rfl) (by unfold Lf; rw [ha]; exact ⟨x, y, hu, hx, hy⟩)
  | cat2 p a b ha _ ih =>
    obtain ⟨e, hee, x, y, hu, hx, hy⟩ := ih
    rw [Rx.at_cons, ha] at hee
    have : b = e := by simpa [Rx.kid] using hee
    subst this
    unfold Lf at hx
    rw [ha] at hx
    obtain ⟨x1, x2, hxx, h1, h2⟩ := hx
    exact ⟨_, ha, x1, x2 ++ y, by rw [hu, hxx, List.append_assoc], h1, x2, y, rfl, h2, hy⟩
  | or0 p a b ha _ ih =>
    have ih' : Lf r p u := by have := ih; simp only [if_true] at this; unfold Bx at this; rw [ha] at this; exact this
    exact Bx_of_Lf (e := a) (by rw [Rx.at_cons, ha]; rfl) (by unfold Lf; rw [ha]; exact ih')
  | or1 p a b ha _ ih =>
    have ih' : Lf r p u := by have := ih; simp only [if_true] at this; unfold Bx at this; rw [ha] at this; exact this
    exact Bx_of_Lf (e := b) (by rw [Rx.at_cons, ha]; rfl) (by unfold Lf; rw [ha]; exact ih')
  | or2 p a b k ha hk _ ih =>
    obtain ⟨e, hee, x, y, hu, hx, hy⟩ := ih
    rw [Rx.at_cons, ha] at hee
    unfold Lf at hx
    rw [ha] at hx
    refine ⟨_, ha, x, y, hu, hx, ?_⟩
    rcases (by omega : k = 0 ∨ k = 1) with rfl | rfl
    · have : a = e := by simpa [Rx.kid] using hee
      subst this; exact .inl hy
    · have : b = e := by simpa [Rx.kid] using hee
      subst this; exact .inr hy
  | star0 p a ha _ ih =>
    have ih' : ∃ x y, u = x ++ y ∧ Lf r p x ∧ Many a.L y := by have := ih; simp only [if_true] at this; unfold Bx at this; rw [ha] at this; exact this
    obtain ⟨x, y, hu, hx, hy⟩ := ih'
    exact ⟨_, ha, x, y, hu, hx, hy⟩
  | star1 p a ha _ ih =>
    have ih' : ∃ x y, u = x ++ y ∧ Lf r p x ∧ Many a.L y := by have := ih; simp only [if_true] at this; unfold Bx at this; rw [ha] at this; exact this
    exact Bx_of_Lf (e := a) (by rw [Rx.at_cons, ha]; rfl) (by unfold Lf; rw [ha]; exact ih')
  | star2 p a ha _ ih =>
    obtain ⟨e, hee, x, y, hu, hx, hy⟩ := ih
    rw [Rx.at_cons, ha] at hee
    have : a = e := by simpa [Rx.kid] using hee
    subst this
    unfold Lf at hx
    rw [ha] at hx
    obtain ⟨x1, x2, hxx, h1, h2⟩ := hx
    show Bx r p u
    unfold Bx
    rw [ha]
    exact ⟨x1, x2 ++ y, by rw [hu, hxx, List.append_assoc], h1, h2.snoc hy⟩

theorem X_sound (r : Rx) : ∀ (u : List UInt8) (d : Bool) (p : Path), X r u d p → if d = true then Bx r p u.reverse else Ex r p u.reverse
  | [], d, p, h => by
    refine Cl_sound (fun q hq => ?_) (fun q hq => by cases hq.1) h
    obtain ⟨_, rfl⟩ := hq
    exact Bx_of_Lf (e := r) rfl rfl
  | c :: u, d, p, h => by
    refine Cl_sound (fun q hq => by cases hq.1) (fun q hq => ?_) h
    obtain ⟨_, s, hs, hc, hx⟩ := hq
    have ih := X_sound r u true q hx
    simp only [if_true] at ih
    unfold Bx at ih
    rw [hs] at ih
    exact ⟨_, hs, u.reverse, [c], by simp, ih, c, rfl, hc⟩

/-- A text is meant just if the whole ends behind it. -/
theorem X_iff (r : Rx) (u : List UInt8) : X r u.reverse false [] ↔ r.L u := by
  constructor
  · intro h
    have := X_sound r _ _ _ h
    simp only [Bool.false_eq_true, if_false, List.reverse_reverse] at this
    obtain ⟨e, he, x, y, hu, hx, hy⟩ := this
    have : r = e := by simpa [Rx.at] using he
    subst this
    have hx' : x = [] := hx
    subst hx'
    rw [hu, List.nil_append]; exact hy
  · intro h
    have h0 : X r [] true [] := Cl.seed _ _ ⟨rfl, rfl⟩
    have := X_complete r r [] [] u rfl h0 h
    rwa [List.append_nil] at this

/-- All places of an expression. -/
def Rx.all : Rx → List Path
  | .set _ => [[]]
  | .empty => [[]]
  | .cat a b => [] :: (a.all.map (· ++ [0]) ++ b.all.map (· ++ [1]))
  | .or a b => [] :: (a.all.map (· ++ [0]) ++ b.all.map (· ++ [1]))
  | .star a => [] :: a.all.map (· ++ [0])
end Go.Proofs.YtejdfpieblkapaaGreatDoor
