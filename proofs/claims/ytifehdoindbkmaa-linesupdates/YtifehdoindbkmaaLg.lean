/- Where lines begin in an edited text. -/
import Derived.Test.YtifehdoindbkmaaLf
import Derived.Test.YtifehdoindbkmaaShelfJ
import Derived.Deep.RegionHeld3
import Derived.Deep.AppendLies
namespace Go.Proofs.Ytifehdoindbkmaa
open Go.RowKit Go.Shelf

theorem nls_take (l : List UInt8) (k m : Nat) (h : k ≤ m) : nls (l.take m) k = nls l k := by
  induction k with
  | zero => rfl
  | succ k ih =>
    have hg : (l.take m)[k]? = l[k]? := by rw [List.getElem?_take, if_pos (by omega)]
    by_cases h10 : l[k]? = some 10
    · rw [nls_hit h10, nls_hit (by rw [hg]; exact h10), ih (by omega)]
    · rw [nls_miss h10, nls_miss (by rw [hg]; exact h10), ih (by omega)]
theorem nls_append (a b : List UInt8) (k : Nat) : nls (a ++ b) (a.length + k) = nls a a.length ++ (nls b k).map (· + (a.length : Int)) := by
  induction k with
  | zero =>
    have h := nls_take (a ++ b) a.length a.length (Nat.le_refl _)
    rw [List.take_left] at h
    rw [Nat.add_zero, ← h, nls_zero]; simp
  | succ k ih =>
    have hg : (a ++ b)[a.length + k]? = b[k]? := by rw [List.getElem?_append_right (by omega)]; congr 1; omega
    by_cases h10 : b[k]? = some 10
    · rw [nls_hit h10, ← Nat.add_assoc, nls_hit (by rw [hg]; exact h10), ih]
      simp; omega
    · rw [nls_miss h10, ← Nat.add_assoc, nls_miss (by rw [hg]; exact h10), ih]

/-- The edited text. -/
def edT (s v : ByteArray) (p q : Nat) : ByteArray := ⟨(s.data.toList.take p ++ (v.data.toList ++ s.data.toList.drop q)).toArray⟩
theorem edT_data (s v : ByteArray) (p q : Nat) : (edT s v p q).data.toList = s.data.toList.take p ++ (v.data.toList ++ s.data.toList.drop q) := rfl
theorem edT_size (s v : ByteArray) {p q : Nat} (hp : p ≤ s.size) (hq : q ≤ s.size) : (edT s v p q).size = p + (v.size + (s.size - q)) := by
  rw [Lib.size_eq, edT_data, List.length_append, List.length_append, List.length_take, List.length_drop, ← Lib.size_eq, ← Lib.size_eq]; omega

theorem bgs_split (s : ByteArray) {q : Nat} (hq : q ≤ s.size) : bgs s = nls s.data.toList q ++ (nls (s.data.toList.drop q) (s.size - q)).map (· + (q : Int)) := by
  have hl : (s.data.toList.take q).length = q := by rw [List.length_take, ← Lib.size_eq]; omega
  have h := nls_append (s.data.toList.take q) (s.data.toList.drop q) (s.size - q)
  rw [List.take_append_drop, hl, show q + (s.size - q) = s.size by omega, nls_take _ _ _ (Nat.le_refl _)] at h
  exact h

theorem bgs_ed (s v : ByteArray) {p q : Nat} (hpq : p ≤ q) (hq : q ≤ s.size) :
    bgs (edT s v p q) = (bgs s).take (lnOf s p) ++ ((bgs v).map ((p : Int) + ·) ++ ((bgs s).drop (lnOf s q)).map fun z => z - ((q : Int) - p) + v.size) := by
  have hlp : (s.data.toList.take p).length = p := by rw [List.length_take, ← Lib.size_eq]; omega
  have h1 : (bgs s).take (lnOf s p) = nls s.data.toList p := by
    rw [bgs_split s (show p ≤ s.size by omega)]; exact List.take_left
  have h2 : (bgs s).drop (lnOf s q) = (nls (s.data.toList.drop q) (s.size - q)).map (· + (q : Int)) := by
    rw [bgs_split s hq]; exact List.drop_left
  have h3 := nls_append (s.data.toList.take p) (v.data.toList ++ s.data.toList.drop q) (v.size + (s.size - q))
  have h4 := nls_append v.data.toList (s.data.toList.drop q) (s.size - q)
  rw [← Lib.size_eq] at h4
  rw [hlp, nls_take _ _ _ (Nat.le_refl _), h4] at h3
  rw [h1, h2]
  unfold bgs
  rw [edT_size s v (by omega) hq, edT_data, h3, List.map_append, List.map_map, List.map_map]
  congr 1
  congr 1
  · apply List.map_congr_left; intro z _; omega
  · apply List.map_congr_left; intro z _; simp only [Function.comp]; omega
end Go.Proofs.Ytifehdoindbkmaa
