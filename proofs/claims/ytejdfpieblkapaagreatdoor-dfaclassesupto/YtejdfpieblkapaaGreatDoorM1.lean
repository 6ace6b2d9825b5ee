/- Carried from another seat. -/
import Derived.Below
namespace Go.Proofs.YtejdfpieblkapaaGreatDoor


structure Ws where
 a : Nat
 b : Nat
 c : Nat
 d : Nat
 deriving DecidableEq, Inhabited

def Ws.word (s : Ws) : Nat → Nat
 | 0 => s.a
 | 1 => s.b
 | 2 => s.c
 | _ => s.d
def Ws.has (s : Ws) (x : UInt8) : Bool := s.word (x.toNat / 64) / 2 ^ (x.toNat % 64) % 2 == 1

inductive Rx where
 | set (s : Ws)
 | empty
 | cat (a b : Rx)
 | or (a b : Rx)
 | star (a : Rx)
 deriving Inhabited

inductive Many (P : List UInt8 → Prop) : List UInt8 → Prop
 | nil : Many P []
 | cons (x y : List UInt8) : P x → Many P y → Many P (x ++ y)

def Rx.L : Rx → List UInt8 → Prop
 | .set s, u => ∃ c, u = [c] ∧ s.has c = true
 | .empty, u => u = []
 | .cat a b, u => ∃ x y, u = x ++ y ∧ a.L x ∧ b.L y
 | .or a b, u => a.L u ∨ b.L u
 | .star a, u => Many a.L u

def Rx.size : Rx → Nat
 | .set _ => 1
 | .empty => 1
 | .cat a b => 1 + a.size + b.size
 | .or a b => 1 + a.size + b.size
 | .star a => 1 + a.size

abbrev Path := List Nat

def Rx.kid : Rx → Nat → Option Rx
 | .cat a _, 0 => some a
 | .cat _ b, 1 => some b
 | .or a _, 0 => some a
 | .or _ b, 1 => some b
 | .star a, 0 => some a
 | _, _ => none

def Rx.at (r : Rx) : Path → Option Rx
 | [] => some r
 | k :: p => (r.at p).bind (·.kid k)

inductive Cl (r : Rx) (s0 : Bool → Path → Prop) : Bool → Path → Prop
 | seed (d : Bool) (p : Path) : s0 d p → Cl r s0 d p
 | empty (p : Path) : r.at p = some .empty → Cl r s0 true p → Cl r s0 false p
 | cat0 (p : Path) (a b : Rx) : r.at p = some (.cat a b) → Cl r s0 true p → Cl r s0 true (0 :: p)
 | cat1 (p : Path) (a b : Rx) : r.at p = some (.cat a b) → Cl r s0 false (0 :: p) → Cl r s0 true (1 :: p)
 | cat2 (p : Path) (a b : Rx) : r.at p = some (.cat a b) → Cl r s0 false (1 :: p) → Cl r s0 false p
 | or0 (p : Path) (a b : Rx) : r.at p = some (.or a b) → Cl r s0 true p → Cl r s0 true (0 :: p)
 | or1 (p : Path) (a b : Rx) : r.at p = some (.or a b) → Cl r s0 true p → Cl r s0 true (1 :: p)
 | or2 (p : Path) (a b : Rx) (k : Nat) : r.at p = some (.or a b) → k < 2 → Cl r s0 false (k :: p) → Cl r s0 false p
 | star0 (p : Path) (a : Rx) : r.at p = some (.star a) → Cl r s0 true p → Cl r s0 false p
 | star1 (p : Path) (a : Rx) : r.at p = some (.star a) → Cl r s0 true p → Cl r s0 true (0 :: p)
 | star2 (p : Path) (a : Rx) : r.at p = some (.star a) → Cl r s0 false (0 :: p) → Cl r s0 true p

def X (r : Rx) : List UInt8 → Bool → Path → Prop
 | [] => Cl r (fun d p => d = true ∧ p = [])
 | c :: u => Cl r (fun d p => d = false ∧ ∃ s, r.at p = some (.set s) ∧ s.has c = true ∧ X r u true p)

def Seed (r : Rx) : List UInt8 → Bool → Path → Prop
 | [] => fun d p => d = true ∧ p = []
 | c :: u => fun d p => d = false ∧ ∃ s, r.at p = some (.set s) ∧ s.has c = true ∧ X r u true p
def Lf (r : Rx) : Path → List UInt8 → Prop
 | [], u => u = []
 | k :: p, u => match r.at p, k with
  | some (.cat _ _), 0 => Lf r p u
  | some (.cat a _), 1 => ∃ x y, u = x ++ y ∧ Lf r p x ∧ a.L y
  | some (.or _ _), _ => Lf r p u
  | some (.star a), _ => ∃ x y, u = x ++ y ∧ Lf r p x ∧ Many a.L y
  | _, _ => False

def Bx (r : Rx) (p : Path) (u : List UInt8) : Prop := match r.at p with
 | some (.star a) => ∃ x y, u = x ++ y ∧ Lf r p x ∧ Many a.L y
 | some _ => Lf r p u
 | none => False
def Ex (r : Rx) (p : Path) (u : List UInt8) : Prop := ∃ e, r.at p = some e ∧ ∃ x y, u = x ++ y ∧ Lf r p x ∧ e.L y

def Rx.all : Rx → List Path
 | .set _ => [[]]
 | .empty => [[]]
 | .cat a b => [] :: (a.all.map (· ++ [0]) ++ b.all.map (· ++ [1]))
 | .or a b => [] :: (a.all.map (· ++ [0]) ++ b.all.map (· ++ [1]))
 | .star a => [] :: a.all.map (· ++ [0])
end Go.Proofs.YtejdfpieblkapaaGreatDoor
