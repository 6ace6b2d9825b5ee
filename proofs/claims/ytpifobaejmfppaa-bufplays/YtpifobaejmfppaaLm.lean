/- The plain mathematics of lean edits. -/
import Derived.Test.YtpifobaejmfppaaMath
import Derived.Lib.Strings
namespace Go.Proofs.Ytpifobaejmfppaa

/-- How many bytes are the same at the beginning. -/
def lcp : List UInt8 → List UInt8 → Nat
  | a :: x, b :: y => if a = b then lcp x y + 1 else 0
  | _, _ => 0

theorem lcp_le : ∀ (x y : List UInt8), lcp x y ≤ x.length ∧ lcp x y ≤ y.length
  | [], y => by simp [lcp]
  | a :: x, [] => by simp [lcp]
  | a :: x, b :: y => by
    have := lcp_le x y
    simp only [lcp]
    split <;> simp <;> omega

theorem lcp_take : ∀ (x y : List UInt8), x.take (lcp x y) = y.take (lcp x y)
  | [], y => by simp [lcp]
  | a :: x, [] => by simp [lcp]
  | a :: x, b :: y => by
    simp only [lcp]
    split
    · rename_i h; subst h; simp [lcp_take x y]
    · simp

theorem lcp_stop : ∀ (x y : List UInt8) (a b : UInt8), x[lcp x y]? = some a → y[lcp x y]? = some b → a ≠ b
  | [], y, a, b, h, _ => by simp at h
  | c :: x, [], a, b, _, h => by simp at h
  | c :: x, d :: y, a, b, h1, h2 => by
    simp only [lcp] at h1 h2
    split at h1
    · rename_i h
      rw [if_pos h] at h2
      exact lcp_stop x y a b (by simpa using h1) (by simpa using h2)
    · rename_i h
      rw [if_neg h] at h2
      simp at h1 h2
      rw [← h1, ← h2]; exact h

theorem lcp_of : ∀ (x y : List UInt8) (k : Nat), k ≤ x.length → k ≤ y.length → (∀ j, j < k → x[j]? = y[j]?) → (k = x.length ∨ k = y.length ∨ ∃ a b, x[k]? = some a ∧ y[k]? = some b ∧ a ≠ b) → lcp x y = k
  | [], y, k, h1, _, _, _ => by simp [lcp] at h1 ⊢; omega
  | a :: x, [], k, _, h2, _, _ => by simp [lcp] at h2 ⊢; omega
  | a :: x, b :: y, 0, _, _, _, h => by
    rcases h with h | h | ⟨c, d, h1, h2, h3⟩
    · simp at h
    · simp at h
    · simp at h1 h2; subst h1 h2
      simp [lcp, h3]
  | a :: x, b :: y, k + 1, h1, h2, h, hs => by
    have h0 := h 0 (by omega)
    simp at h0; subst h0
    have := lcp_of x y k (by simpa using h1) (by simpa using h2) (fun j hj => by have := h (j + 1) (by omega); simpa using this) (by
      rcases hs with hs | hs | ⟨c, d, e1, e2, e3⟩
      · left; simpa using hs
      · right; left; simpa using hs
      · right; right; exact ⟨c, d, by simpa using e1, by simpa using e2, e3⟩)
    simp [lcp, this]

def goneOf (S : List UInt8) (e : Ed) : List UInt8 := (S.drop e.f.toNat).take (e.t.toNat - e.f.toNat)
def nOf (G P : List UInt8) : Nat := lcp G P
def mOf (G P : List UInt8) : Nat := lcp (G.drop (nOf G P)).reverse (P.drop (nOf G P)).reverse
def putOf (G P : List UInt8) : List UInt8 := (P.drop (nOf G P)).take (P.length - nOf G P - mOf G P)

/-- What is left of an edit. -/
def leanOf (S : List UInt8) (e : Ed) : List Ed :=
  if (goneOf S e).length - nOf (goneOf S e) e.bs = mOf (goneOf S e) e.bs ∧ putOf (goneOf S e) e.bs = [] then []
  else [⟨e.f + nOf (goneOf S e) e.bs, e.t - mOf (goneOf S e) e.bs, ⟨(putOf (goneOf S e) e.bs).toArray⟩⟩]

theorem nm_le (G P : List UInt8) : nOf G P + mOf G P ≤ G.length ∧ nOf G P + mOf G P ≤ P.length := by
  have h1 := lcp_le G P
  have h2 := lcp_le (G.drop (nOf G P)).reverse (P.drop (nOf G P)).reverse
  simp only [List.length_reverse, List.length_drop] at h2
  unfold nOf mOf at *
  unfold nOf at *
  omega

/-- The bytes at the end are the same. -/
theorem suffix_same (G P : List UInt8) : G.drop (G.length - mOf G P) = P.drop (P.length - mOf G P) := by
  have h := lcp_take (G.drop (nOf G P)).reverse (P.drop (nOf G P)).reverse
  have hl := nm_le G P
  have e1 : ((G.drop (nOf G P)).reverse).take (mOf G P) = (G.drop (G.length - mOf G P)).reverse := by
    rw [List.take_reverse, List.drop_drop, List.length_drop]
    congr 2; omega
  have e2 : ((P.drop (nOf G P)).reverse).take (mOf G P) = (P.drop (P.length - mOf G P)).reverse := by
    rw [List.take_reverse, List.drop_drop, List.length_drop]
    congr 2; omega
  have h' : ((G.drop (nOf G P)).reverse).take (mOf G P) = ((P.drop (nOf G P)).reverse).take (mOf G P) := h
  rw [e1, e2] at h'
  exact List.reverse_inj.1 h'

theorem put_split (G P : List UInt8) : P = P.take (nOf G P) ++ (putOf G P ++ P.drop (P.length - mOf G P)) := by
  have hl := nm_le G P
  have e1 : P.drop (nOf G P) = putOf G P ++ P.drop (P.length - mOf G P) := by
    unfold putOf
    have := (List.take_append_drop (P.length - nOf G P - mOf G P) (P.drop (nOf G P))).symm
    rwa [List.drop_drop, show nOf G P + (P.length - nOf G P - mOf G P) = P.length - mOf G P by omega] at this
  rw [← e1, List.take_append_drop]

/-- What was put, out of what was there and what is left. -/
theorem put_eq (G P : List UInt8) : P = G.take (nOf G P) ++ (putOf G P ++ G.drop (G.length - mOf G P)) := by
  rw [show G.take (nOf G P) = P.take (nOf G P) from lcp_take G P, suffix_same]
  exact put_split G P

theorem putOf_len (G P : List UInt8) : (putOf G P).length = P.length - nOf G P - mOf G P := by
  unfold putOf; rw [List.length_take, List.length_drop]; omega

/-- Nothing is left just where both are the same. -/
theorem lean_nil_iff (G P : List UInt8) : (G.length - nOf G P = mOf G P ∧ putOf G P = []) ↔ G = P := by
  have hl := nm_le G P
  constructor
  · rintro ⟨h1, h2⟩
    have hp := put_eq G P
    rw [h2, List.nil_append, show G.length - mOf G P = nOf G P by omega, List.take_append_drop] at hp
    exact hp.symm
  · rintro rfl
    have hn : nOf G G = G.length := lcp_of G G G.length (Nat.le_refl _) (Nat.le_refl _) (fun _ _ => rfl) (.inl rfl)
    have hp := putOf_len G G
    refine ⟨by omega, List.eq_nil_of_length_eq_zero (by omega)⟩

theorem leanOf_same {S : List UInt8} {e : Ed} (h : goneOf S e = e.bs) : leanOf S e = [] := by
  unfold leanOf; rw [if_pos ((lean_nil_iff _ _).2 h)]

theorem leanOf_diff {S : List UInt8} {e : Ed} (h : goneOf S e ≠ e.bs) : leanOf S e = [⟨e.f + nOf (goneOf S e) e.bs, e.t - mOf (goneOf S e) e.bs, ⟨(putOf (goneOf S e) e.bs).toArray⟩⟩] := by
  unfold leanOf; rw [if_neg (fun k => h ((lean_nil_iff _ _).1 k))]

theorem first_differs (G P : List UInt8) (a b : UInt8) (h1 : G[nOf G P]? = some a) (h2 : P[nOf G P]? = some b) : a ≠ b := lcp_stop G P a b h1 h2

theorem last_differs (G P : List UInt8) (a b : UInt8) (hg : nOf G P + mOf G P < G.length) (hp : nOf G P + mOf G P < P.length) (h1 : G[G.length - 1 - mOf G P]? = some a) (h2 : P[P.length - 1 - mOf G P]? = some b) : a ≠ b := by
  refine lcp_stop (G.drop (nOf G P)).reverse (P.drop (nOf G P)).reverse a b ?_ ?_
  · show (G.drop (nOf G P)).reverse[mOf G P]? = _
    rw [List.getElem?_reverse (by rw [List.length_drop]; omega), List.getElem?_drop, List.length_drop, ← h1]
    congr 1; omega
  · show (P.drop (nOf G P)).reverse[mOf G P]? = _
    rw [List.getElem?_reverse (by rw [List.length_drop]; omega), List.getElem?_drop, List.length_drop, ← h2]
    congr 1; omega

end Go.Proofs.Ytpifobaejmfppaa
