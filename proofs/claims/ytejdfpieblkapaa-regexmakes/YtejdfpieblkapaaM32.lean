/- The parser as a function: groups, steps, runs. -/
import Derived.Test.YtejdfpieblkapaaM31
namespace Go.Proofs.Ytejdfpieblkapaa
open Go.RowKit Go.Shelf

/-- What was read of an expression: the alternatives, and the factors of the last one. -/
structure Grp where
  ways : List Rx
  row : List Rx
def catR (l : List Rx) : Rx := nest .cat .empty l
def orR (l : List Rx) : Rx := nest .or Rx.none' l
def g0 : Grp := ⟨[], []⟩
def Grp.nextWay (g : Grp) : Grp := ⟨g.ways ++ [catR g.row], []⟩
def Grp.whole (g : Grp) : Rx := orR (g.ways ++ [catR g.row])
def szs (l : List Rx) : Nat := (l.map Rx.size).sum
def Grp.size (g : Grp) : Nat := szs g.ways + szs g.row
def gsz (l : List Grp) : Nat := (l.map Grp.size).sum
def Grp.put (g : Grp) (r : Rx) : Grp := ⟨g.ways, g.row ++ [r]⟩
def Grp.rep (g : Grp) (c : Nat) : Grp := ⟨g.ways, g.row.dropLast ++ [repF (g.row.getLast?.getD .empty) c]⟩
def OUT : ByteArray := ⟨#[124, 42, 43, 63, 40, 41, 91, 93, 46, 92]⟩
def REP : ByteArray := ⟨#[42, 43, 63]⟩
theorem out0 : inS OUT 0 = false := by decide
theorem rep0 : inS REP 0 = false := by decide
/-- An atom that isn't in brackets. -/
def atomF (L : List UInt8) (i : Nat) : Option (Ws × Nat) :=
  if nx L i = 46 then some ((btw 10 1).inv 4, i + 1) else if nx L i = 91 then classF L (i + 1) else (letF OUT L i).map fun x => (btw x.1 1, x.2)
def heavy (lo : List Grp) (g : Grp) : Bool := decide (400 < gsz (lo ++ [g]) ∨ 50 < lo.length)
/-- One step of the parser. -/
def stepF (L : List UInt8) (i : Nat) (lo : List Grp) (g : Grp) (f : Bool) : Option (Nat × List Grp × Grp × Bool) :=
  if nx L i = 124 then some (i + 1, lo, g.nextWay, false)
  else if nx L i = 40 then some (i + 1, lo ++ [g], g0, false)
  else if nx L i = 41 ∧ lo ≠ [] then some (i + 1, lo.dropLast, (lo.getLast?.getD g0).put g.whole, true)
  else if f = true ∧ inS REP (nx L i) = true then some (i + 1, lo, g.rep (nx L i), f)
  else (atomF L i).map fun x => (x.2, lo, g.put (.set x.1), true)
def finF (lo : List Grp) (g : Grp) : Option Rx := if lo = [] then (if g.whole.size ≤ 400 then some g.whole else none) else none
instance (lo : List Grp) : Decidable (lo = []) := match lo with
  | [] => .isTrue rfl
  | _ :: _ => .isFalse (by simp)
def runF (L : List UInt8) : Nat → Nat → List Grp → Grp → Bool → Option Rx
  | 0, _, _, _, _ => none
  | k + 1, i, lo, g, f => if i < L.length then
      (match stepF L i lo g f with
      | none => none
      | some (j, lo', g', f') => if heavy lo' g' = true then none else runF L k j lo' g' f')
    else finF lo g
def parseF (L : List UInt8) : Option Rx := runF L (L.length + 1) 0 [] g0 false

theorem classP_ok {s : ByteArray} {k i j : Nat} {t u : Ws} (h : classP s.data.toList k t i = some (u, j)) (hi : i ≤ s.size) (ht : t.Ok) : i < j ∧ j ≤ s.size ∧ u.Ok := by
  induction k generalizing i t with
  | zero => simp [classP] at h
  | succ k ih =>
    simp only [classP] at h
    split at h
    · rename_i hc
      injection h with h; injection h with h1 h2
      subst h1
      have := nx_in hc.2 (by omega)
      exact ⟨by omega, by omega, ht⟩
    · obtain ⟨⟨x, m⟩, hx, hh⟩ := Option.bind_eq_some_iff.1 h
      have h1 := lettersF_ok hx hi
      have h2 := ih hh h1.2.1 (ht.un h1.2.2)
      exact ⟨by omega, h2.2⟩
theorem classF_ok {s : ByteArray} {i j : Nat} {u : Ws} (h : classF s.data.toList i = some (u, j)) (hi : i ≤ s.size) : i < j ∧ j ≤ s.size ∧ u.Ok := by
  have hz : ws0.Ok := ⟨by decide, by decide, by decide, by decide⟩
  unfold classF at h
  split at h
  · rename_i h94
    have hi2 := nx_in h94 (by omega)
    obtain ⟨⟨x, m⟩, hx, hh⟩ := Option.map_eq_some_iff.1 h
    have h1 := classP_ok hx (by omega) hz
    injection hh with e1 e2
    subst e1; subst e2
    exact ⟨by omega, h1.2.1, inv_ok⟩
  · exact classP_ok h hi hz
theorem atomF_ok {s : ByteArray} {i j : Nat} {u : Ws} (h : atomF s.data.toList i = some (u, j)) (hi : i ≤ s.size) : i < j ∧ j ≤ s.size ∧ u.Ok := by
  unfold atomF at h
  split at h
  · rename_i h1
    have := nx_in h1 (by omega)
    injection h with h; injection h with e1 e2
    subst e1
    exact ⟨by omega, by omega, inv_ok⟩
  · split at h
    · rename_i h1
      have := nx_in h1 (by omega)
      have := classF_ok h (by omega)
      exact ⟨by omega, this.2⟩
    · obtain ⟨⟨x, m⟩, hx, hh⟩ := Option.map_eq_some_iff.1 h
      have h1 := letF_ok hx hi out0
      injection hh with e1 e2
      subst e1; subst e2
      exact ⟨h1.2.1, h1.2.2, btw_ok _ _⟩
theorem stepF_ok {s : ByteArray} {i j : Nat} {lo lo' : List Grp} {g g' : Grp} {f f' : Bool} (h : stepF s.data.toList i lo g f = some (j, lo', g', f')) (hi : i < s.size) : i < j ∧ j ≤ s.size := by
  unfold stepF at h
  split at h
  · injection h with h; injection h with e1 e2; omega
  · split at h
    · injection h with h; injection h with e1 e2; omega
    · split at h
      · injection h with h; injection h with e1 e2; omega
      · split at h
        · injection h with h; injection h with e1 e2; omega
        · obtain ⟨⟨x, m⟩, hx, hh⟩ := Option.map_eq_some_iff.1 h
          have := atomF_ok hx (by omega)
          injection hh with e1 e2
          subst e1
          exact ⟨this.1, this.2.1⟩

theorem Rx.size_pos : ∀ r : Rx, 1 ≤ r.size
  | .set _ => Nat.le_refl _
  | .empty => Nat.le_refl _
  | .cat a b => by show 1 ≤ 1 + a.size + b.size; omega
  | .or a b => by show 1 ≤ 1 + a.size + b.size; omega
  | .star a => by show 1 ≤ 1 + a.size; omega
theorem szs_nil : szs [] = 0 := rfl
theorem szs_cons (r : Rx) (l : List Rx) : szs (r :: l) = r.size + szs l := rfl
theorem szs_append (l m : List Rx) : szs (l ++ m) = szs l + szs m := by simp [szs]
theorem szs_len (l : List Rx) : l.length ≤ szs l := by
  induction l with
  | nil => simp
  | cons a l ih => have := a.size_pos; simp only [szs_cons, List.length_cons]; omega
theorem szs_mem {l : List Rx} {r : Rx} (h : r ∈ l) : r.size ≤ szs l := by
  induction l with
  | nil => cases h
  | cons a l ih =>
    rw [szs_cons]
    rcases List.mem_cons.1 h with rfl | h
    · omega
    · have := ih h; omega
theorem nest_size (mk : Rx → Rx → Rx) (hmk : ∀ a b, (mk a b).size = 1 + a.size + b.size) (r0 : Rx) (h0 : r0.size = 1) (l : List Rx) : (nest mk r0 l).size ≤ 2 * szs l + 1 := by
  induction l with
  | nil => show r0.size ≤ _; omega
  | cons a l ih =>
    cases l with
    | nil => show a.size ≤ _; rw [szs_cons]; omega
    | cons b l =>
      show (mk a (nest mk r0 (b :: l))).size ≤ _
      have := a.size_pos
      rw [hmk, szs_cons]; omega
theorem catR_size (l : List Rx) : (catR l).size ≤ 2 * szs l + 1 := nest_size _ (fun _ _ => rfl) _ rfl l
theorem orR_size (l : List Rx) : (orR l).size ≤ 2 * szs l + 1 := nest_size _ (fun _ _ => rfl) _ rfl l
theorem gsz_append (l m : List Grp) : gsz (l ++ m) = gsz l + gsz m := by simp [gsz]
theorem gsz_one (g : Grp) : gsz [g] = g.size := by simp [gsz]
theorem gsz_mem {l : List Grp} {g : Grp} (h : g ∈ l) : g.size ≤ gsz l := by
  induction l with
  | nil => cases h
  | cons a l ih =>
    have e : gsz (a :: l) = a.size + gsz l := rfl
    rw [e]
    rcases List.mem_cons.1 h with rfl | h
    · omega
    · have := ih h; omega
end Go.Proofs.Ytejdfpieblkapaa
