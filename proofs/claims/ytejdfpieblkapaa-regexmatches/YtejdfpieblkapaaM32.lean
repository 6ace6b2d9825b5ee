/- The parser as a function: groups, steps, runs. -/
import Derived.Test.YtejdfpieblkapaaM31
namespace Go.Proofs.Ytejdfpieblkapaa
open Go.RowKit Go.Shelf

/-- What was read of an expression: the alternatives, and the factors of the last one. -/
structure Grp where
  ways : List Rx
  row : List Rx
def catR (l : List Rx) : Rx := nest .cat .empty l
def orR (l : List Rx) : Rx := nest .or Rx.none' l
def g0 : Grp := ⟨[], []⟩
def Grp.nextWay (g : Grp) : Grp := ⟨g.ways ++ [catR g.row], []⟩
def Grp.whole (g : Grp) : Rx := orR (g.ways ++ [catR g.row])
def szs (l : List Rx) : Nat := (l.map Rx.size).sum
def Grp.size (g : Grp) : Nat := szs g.ways + szs g.row
def gsz (l : List Grp) : Nat := (l.map Grp.size).sum
def Grp.put (g : Grp) (r : Rx) : Grp := ⟨g.ways, g.row ++ [r]⟩
def Grp.rep (g : Grp) (c : Nat) : Grp := ⟨g.ways, g.row.dropLast ++ [repF (g.row.getLast?.getD .empty) c]⟩
def OUT : ByteArray := ⟨#[124, 42, 43, 63, 40, 41, 91, 93, 46, 92]⟩
def REP : ByteArray := ⟨#[42, 43, 63]⟩
theorem out0 : inS OUT 0 = false := by decide
theorem rep0 : inS REP 0 = false := by decide
/-- An atom that isn't in brackets. -/
def atomF (L : List UInt8) (i : Nat) : Option (Ws × Nat) :=
  if nx L i = 46 then some ((btw 10 1).inv 4, i + 1) else if nx L i = 91 then classF L (i + 1) else (letF OUT L i).map fun x => (btw x.1 1, x.2)
def heavy (lo : List Grp) (g : Grp) : Bool := decide (400 < gsz (lo ++ [g]) ∨ 50 < lo.length)
/-- One step of the parser. -/
def stepF (L : List UInt8) (i : Nat) (lo : List Grp) (g : Grp) (f : Bool) : Option (Nat × List Grp × Grp × Bool) :=
  if nx L i = 124 then some (i + 1, lo, g.nextWay, false)
  else if nx L i = 40 then some (i + 1, lo ++ [g], g0, false)
  else if nx L i = 41 ∧ lo ≠ [] then some (i + 1, lo.dropLast, (lo.getLast?.getD g0).put g.whole, true)
  else if f = true ∧ inS REP (nx L i) = true then some (i + 1, lo, g.rep (nx L i), f)
  else (atomF L i).map fun x => (x.2, lo, g.put (.set x.1), true)
def finF (lo : List Grp) (g : Grp) : Option Rx := if lo = [] then (if g.whole.size ≤ 400 then some g.whole else none) else none
instance (lo : List Grp) : Decidable (lo = []) := match lo with
  | [] => .isTrue rfl
  | _ :: _ => .isFalse (by simp)
def runF (L : List UInt8) : Nat → Nat → List Grp → Grp → Bool → Option Rx
  | 0, _, _, _, _ => none
  | k + 1, i, lo, g, f => if i < L.length then
      (match stepF L i lo g f with
      | none => none
      | some (j, lo', g', f') => if heavy lo' g' = true then none else runF L k j lo' g' f')
    else finF lo g
def parseF (L : List UInt8) : Option Rx := runF L (L.length + 1) 0 [] g0 false

theorem classP_ok {s : ByteArray} {k i j : Nat} {t u : Ws} (h : classP s.data.toList k t i = some (u, j)) (hi : i ≤ s.size) (ht : t.Ok) : i < j ∧ j ≤ s.size ∧ u.Ok := by
  induction k generalizing i t with
  | zero => simp [classP] at h
  | succ k ih =>
    simp only [classP] at h
    split at h
    · rename_i hc
      injection h with h; injection h with h1 h2
      subst h1
      have := nx_in hc.2 (by omega)
      exact ⟨by omega, by omega, ht⟩
    · obtain ⟨⟨x, m⟩, hx, hh⟩ := Option.bind_eq_some_iff.1 h
      have h1 := lettersF_ok hx hi
      have h2 := ih hh h1.2.1 (ht.un h1.2.2)
      exact ⟨by omega, h2.2⟩
theorem classF_ok {s : ByteArray} {i j : Nat} {u : Ws} (h : classF s.data.toList i = some (u, j)) (hi : i ≤ s.size) : i < j ∧ j ≤ s.size ∧ u.Ok := by
  have hz : ws0.Ok := ⟨by decide, by decide, by decide, by decide⟩
  unfold classF at h
  split at h
  · rename_i h94
    have hi2 := nx_in h94 (by omega)
    obtain ⟨⟨x, m⟩, hx, hh⟩ := Option.map_eq_some_iff.1 h
    have h1 := classP_ok hx (by omega) hz
    injection hh with e1 e2
    subst e1; subst e2
    exact ⟨by omega, h1.2.1, inv_ok⟩
  · exact classP_ok h hi hz
theorem atomF_ok {s : ByteArray} {i j : Nat} {u : Ws} (h : atomF s.data.toList i = some (u, j)) (hi : i ≤ s.size) : i < j ∧ j ≤ s.size ∧ u.Ok := by
  unfold atomF at h
  split at h
  · rename_i h1
    have := nx_in h1 (by omega)
    injection h with h; injection h with e1 e2
    subst e1
    exact ⟨by omega, by omega, inv_ok⟩
  · split at h
    · rename_i h1
      have := nx_in h1 (by omega)
      have := classF_ok h (by omega)
      exact ⟨by omega, this.2⟩
    · obtain ⟨⟨x, m⟩, hx, hh⟩ := Option.map_eq_some_iff.1 h
      have h1 := letF_ok hx hi out0
      injection hh with e1 e2
      subst e1; subst e2
      exact ⟨h1.2.1, h1.2.2, btw_ok _ _⟩
theorem stepF_ok {s : ByteArray} {i j : Nat} {lo lo' : List Grp} {g g' : Grp} {f f' : Bool} (h : stepF s.data.toList i lo g f = some (j, lo', g', f')) (hi : i < s.size) : i < j ∧ j ≤ s.size := by
  unfold stepF at h
  split at h
  · injection h with h; injection h with e1 e2; omega
  · split at h
    · injection h with h; injection h with e1 e2; omega
    · split at h
      · injection h with h; injection h with e1 e2; omega
      · split at h
        · injection h with h; injection h with e1 e2; omega
        · obtain ⟨⟨x, m⟩, hx, hh⟩ := Option.map_eq_some_iff.1 h
          have := atomF_ok hx (by omega)
          injection hh with e1 e2
          subst e1
          exact ⟨this.1, this.2.1⟩

theorem Rx.size_pos : ∀ r : Rx, 1 ≤ r.size
  | .set _ => Nat.le_refl _
  | .empty => Nat.le_refl _
  | .cat a b => by show 1 ≤ 1 + a.size + b.size; omega
  | .or a b => by show 1 ≤ 1 + a.size + b.size; omega
  | .star a => by show 1 ≤ 1 + a.size; omega
theorem szs_nil : szs [] = 0 := rfl
theorem szs_cons (r : Rx) (l : List Rx) : szs (r :: l) = r.size + szs l := rfl
theorem szs_append (l m : List Rx) : szs (l ++ m) = szs l + szs m := by simp [szs]
theorem szs_len (l : List Rx) : l.length ≤ szs l := by
  induction l with
  | nil => simp
  | cons a l ih => have := a.size_pos; simp only [szs_cons, List.length_cons]; omega
theorem szs_mem {l : List Rx} {r : Rx} (h : r ∈ l) : r.size ≤ szs l := by
  induction l with
  | nil => cases h
  | cons a l ih =>
    rw [szs_cons]
    rcases List.mem_cons.1 h with rfl | h
    · omega
    · have := ih h; omega
theorem nest_size (mk : Rx → Rx → Rx) (hmk : ∀ a b, (mk a b).size = 1 + a.size + b.size) (r0 : Rx) (h0 : r0.size = 1) (l : List Rx) : (nest mk r0 l).size ≤ 2 * szs l + 1 := by
  induction l with
  | nil => show r0.size ≤ _; omega
  | cons a l ih =>
    cases l with
    | nil => show a.size ≤ _; rw [szs_cons]; omega
    | cons b l =>
      show (mk a (nest mk r0 (b :: l))).size ≤ _
      have := a.size_pos
      rw [hmk, szs_cons]; omega
theorem catR_size (l : List Rx) : (catR l).size ≤ 2 * szs l + 1 := nest_size _ (fun _ _ => rfl) _ rfl l
theorem orR_size (l : List Rx) : (orR l).size ≤ 2 * szs l + 1 := nest_size _ (fun _ _ => rfl) _ rfl l
theorem gsz_append (l m : List Grp) : gsz (l ++ m) = gsz l + gsz m := by simp [gsz]
theorem gsz_one (g : Grp) : gsz [g] = g.size := by simp [gsz]
theorem gsz_mem {l : List Grp} {g : Grp} (h : g ∈ l) : g.size ≤ gsz l := by
  induction l with
  | nil => cases h
  | cons a l ih =>
    have e : gsz (a :: l) = a.size + gsz l := rfl
    rw [e]
    rcases List.mem_cons.1 h with rfl | h
    · omega
    · have := ih h; omega
end Go.Proofs.Ytejdfpieblkapaa

/- The parser's state in memory. -/
namespace Go.Proofs.Ytejdfpieblkapaa
open Go.RowKit Go.Shelf

/-- A row of nodes that is the parser's own: its block has a role, the nodes' blocks have none. -/
def RwAt (w : World) (ρ : Nat → Nat) (role : Nat) (v : Value) (rs : List Rx) : Prop :=
  ∃ bs : List Nat, w.ownsRow 0 23 1 v rs.length (bs.map ptr) ∧ NdsQ w (fun i => ρ i = 0) rs bs ∧ ∀ g, v.ownBlock = some g → ρ g = role
theorem own_lt {w : World} {base e size n : Nat} {v : Value} {xs : List Value} (h : w.ownsRow base e size v n xs) {g : Nat} (hg : v.ownBlock = some g) : g < w.heap.size := by
  obtain ⟨_, cs, hc⟩ := own_ty h hg
  exact lt_of_heap hc
theorem RwAt.keep {w w' : World} {ρ : Nat → Nat} {role : Nat} {v : Value} {rs : List Rx} {ex : Nat → Prop} (h : RwAt w ρ role v rs) (hk : Kb ex w w') (hx : ∀ i, i < w.heap.size → ex i → ρ i ≠ 0 ∧ ρ i ≠ role) : RwAt w' ρ role v rs := by
  obtain ⟨bs, h1, h2, h3⟩ := h
  refine ⟨bs, own_kb h1 hk (fun g hg he => (hx g (own_lt h1 hg) he).2 (h3 g hg)), ⟨h2.1, fun i r b hr hb => ?_⟩, h3⟩
  have h4 := (h2.2 i r b hr hb).mono (Q' := fun i => ρ i = 0 ∧ i < w.heap.size) (fun i hi hq => ⟨hq, hi⟩)
  have h5 := h4.keep (w' := w') (KeepQ.kb hk (fun i hi he => (hx i hi.2 he).1 hi.1))
  exact h5.mono (fun i _ hq => hq.1)
theorem RwAt.rho {w : World} {ρ ρ' : Nat → Nat} {role : Nat} {v : Value} {rs : List Rx} (h : RwAt w ρ role v rs) (hr : ∀ i, i < w.heap.size → ρ' i = ρ i) : RwAt w ρ' role v rs := by
  obtain ⟨bs, h1, h2, h3⟩ := h
  exact ⟨bs, h1, h2.mono (fun i hi hq => (hr i hi).trans hq), fun g hg => (hr g (own_lt h1 hg)).trans (h3 g hg)⟩
theorem RwAt.nil (w : World) (ρ : Nat → Nat) (role : Nat) : RwAt w ρ role (.slice none 0 0) [] := ⟨[], ⟨rfl, .inl ⟨rfl, rfl⟩⟩, ⟨rfl, fun i r b h => by simp at h⟩, fun g hg => by simp [Value.ownBlock] at hg⟩

/-- The parser's state; the row of the role h may be in the making. -/
structure PIx (h : Nat) (w0 w : World) (ρ : Nat → Nat) (P G cap : Nat) (s : ByteArray) (i : Nat) (d : Int) (n : Nat) (vs : List Value) (R : List (List Rx)) : Prop where
  ps : PsB w P s i (.slice (some ⟨G, 0, none⟩) n cap) d false
  own : w.ownsRow 0 88 2 (.slice (some ⟨G, 0, none⟩) n cap) n vs
  len : R.length = vs.length
  rows : ∀ c v rs, vs[c]? = some v → R[c]? = some rs → 3 + c ≠ h → RwAt w ρ (3 + c) v rs
  rP : ρ P = 1
  rG : ρ G = 2
  low : ∀ i, ρ i ≠ 0 → w0.heap.size ≤ i
  bel : Below w0.heap.size w0 w

section
variable {h : Nat} {w0 w w' : World} {ρ ρ' : Nat → Nat} {P G cap : Nat} {s : ByteArray} {i : Nat} {d : Int} {n : Nat} {vs : List Value} {R : List (List Rx)}
theorem PIx.hole (H : PIx 0 w0 w ρ P G cap s i d n vs R) : PIx h w0 w ρ P G cap s i d n vs R := ⟨H.ps, H.own, H.len, fun c v rs h1 h2 _ => H.rows c v rs h1 h2 (by omega), H.rP, H.rG, H.low, H.bel⟩
theorem PIx.lenv (H : PIx h w0 w ρ P G cap s i d n vs R) : vs.length = n * 2 := H.own.1
theorem PIx.blk (H : PIx h w0 w ρ P G cap s i d n vs R) : ∃ cur : Array Value, w.heap[G]? = some (.cells cur 88 (0, 0)) ∧ cur.toList.take (n * 2) = vs ∧ n ≤ cap ∧ cap ≤ maxLen ∧ cur.size = cap * 2 := by
  rcases H.own.2 with ⟨hv, _⟩ | ⟨g, c, cur, hv, _, hh, h1, h2, h3, h4⟩
  · simp at hv
  · have e1 : G = g := by injection hv with e; injection e with e; injection e
    have e2 : cap = c := by injection hv
    subst e1; subst e2
    exact ⟨cur, hh, h4, h1, h2, h3⟩
theorem PIx.cell (H : PIx h w0 w ρ P G cap s i d n vs R) {c : Nat} {v : Value} (hc : vs[c]? = some v) : w.cell? ⟨G, c, none⟩ = some v := by
  obtain ⟨cur, h1, h2, _⟩ := H.blk
  rw [Lib.cell_of_heap h1]
  rw [← h2, List.getElem?_take] at hc
  split at hc
  · simpa using hc
  · cases hc
theorem PIx.frozen (H : PIx h w0 w ρ P G cap s i d n vs R) (c : Nat) : w.frozen? ⟨G, c, none⟩ = false := by
  obtain ⟨cur, h1, _⟩ := H.blk
  exact Lib.frozen_of_heap h1 c
theorem PIx.ltG (H : PIx h w0 w ρ P G cap s i d n vs R) : G < w.heap.size := by obtain ⟨cur, h1, _⟩ := H.blk; exact lt_of_heap h1
theorem PIx.ltP (H : PIx h w0 w ρ P G cap s i d n vs R) : P < w.heap.size := lt_of_heap H.ps
theorem PIx.neq (H : PIx h w0 w ρ P G cap s i d n vs R) : P ≠ G := fun e => by have h1 := H.rP; rw [e, H.rG] at h1; omega
theorem PIx.rho (H : PIx h w0 w ρ P G cap s i d n vs R) (hr : ∀ i, i < w.heap.size → ρ' i = ρ i) (hl : ∀ i, ρ' i ≠ 0 → w0.heap.size ≤ i) : PIx h w0 w ρ' P G cap s i d n vs R :=
  ⟨H.ps, H.own, H.len, fun c v rs h1 h2 h3 => (H.rows c v rs h1 h2 h3).rho hr, (hr _ H.ltP).trans H.rP, (hr _ H.ltG).trans H.rG, hl, H.bel⟩
/-- What changes is the row in the making alone. -/
theorem PIx.kb {ex : Nat → Prop} (H : PIx h w0 w ρ P G cap s i d n vs R) (hk : Kb ex w w') (hx : ∀ i, i < w.heap.size → ex i → ρ i = h) (h3 : 3 ≤ h) : PIx h w0 w' ρ P G cap s i d n vs R := by
  have hP : ¬ ex P := fun he => by have h1 := hx P H.ltP he; rw [H.rP] at h1; omega
  have hG : ¬ ex G := fun he => by have h1 := hx G H.ltG he; rw [H.rG] at h1; omega
  refine ⟨(hk.block P H.ltP hP).trans H.ps, own_kb H.own hk (fun g hg => ?_), H.len, fun c v rs h1 h2 h3' => (H.rows c v rs h1 h2 h3').keep hk (fun i hi he => ⟨by rw [hx i hi he]; omega, by rw [hx i hi he]; omega⟩), H.rP, H.rG, H.low, H.bel.trans (hk.below H.bel.size ?_)⟩
  · have : G = g := by simpa [Value.ownBlock] using hg
    subst this; exact hG
  · intro i he
    rcases Nat.lt_or_ge i w.heap.size with hi | hi
    · exact H.low i (by rw [hx i hi he]; omega)
    · exact Nat.le_trans H.bel.size hi
theorem PIx.below (H : PIx h w0 w ρ P G cap s i d n vs R) (hb : Below w.heap.size w w') : PIx h w0 w' ρ P G cap s i d n vs R := by
  have hk := Kb.of_below (fun _ => False) hb
  refine ⟨H.ps.below hb, own_kb H.own hk (fun _ _ h => h), H.len, fun c v rs h1 h2 h3' => (H.rows c v rs h1 h2 h3').keep hk (fun i hi he => he.elim), H.rP, H.rG, H.low, below_tr H.bel hb H.bel.size⟩
/-- A row is done. -/
theorem PIx.fill {c : Nat} {v : Value} {rs : List Rx} (H : PIx (3 + c) w0 w ρ P G cap s i d n vs R) (hv : vs[c]? = some v) (hr : RwAt w ρ (3 + c) v rs) : PIx 0 w0 w ρ P G cap s i d n vs (R.set c rs) :=
  ⟨H.ps, H.own, by rw [List.length_set]; exact H.len, fun c' v' rs' h1 h2 _ => by
    by_cases hc : c' = c
    · subst hc
      rw [hv] at h1
      injection h1 with h1
      rw [List.getElem?_set_self' ] at h2
      obtain ⟨_, _, rfl⟩ := Option.map_eq_some_iff.1 h2
      rw [← h1]; exact hr
    · rw [List.getElem?_set_ne (Ne.symm hc)] at h2
      exact H.rows c' v' rs' h1 h2 (by omega), H.rP, H.rG, H.low, H.bel⟩
/-- A row is done, and put into its group. -/
theorem PIx.set {c : Nat} {v : Value} {rs : List Rx} (H : PIx (3 + c) w0 w ρ P G cap s i d n vs R) (hc : c < vs.length) (hr : RwAt w ρ (3 + c) v rs) : PIx 0 w0 (w.setCell ⟨G, c, none⟩ v) ρ P G cap s i d n (vs.set c v) (R.set c rs) := by
  obtain ⟨cur, h1, h2, h3, h4, h5⟩ := H.blk
  have hk := Kb.setCell w ⟨G, c, none⟩ v
  have hG := H.rG
  have hx : ∀ role, 3 ≤ role → ∀ i, i < w.heap.size → i = G → ρ i ≠ 0 ∧ ρ i ≠ role := fun role h3 i _ he => by rw [he, hG]; omega
  have hl := H.lenv
  refine ⟨(hk.block P H.ltP H.neq).trans H.ps, ⟨by rw [List.length_set]; exact hl, .inr ⟨G, cap, cur.set! c v, rfl, Nat.zero_le _, set_heap w G c cur v 88 (0, 0) h1, h3, h4, by simp [h5], ?_⟩⟩, by rw [List.length_set, List.length_set]; exact H.len, fun c' v' rs' h1 h2 _ => ?_, H.rP, H.rG, H.low, H.bel.trans (hk.below H.bel.size (fun i he => ?_))⟩
  · rw [← h2]
    simp only [Array.set!_eq_setIfInBounds, Array.toList_setIfInBounds]
    rw [List.take_set]
  · by_cases hcc : c' = c
    · subst hcc
      rw [List.getElem?_set_self' ] at h1 h2
      obtain ⟨_, _, rfl⟩ := Option.map_eq_some_iff.1 h2
      obtain ⟨_, _, rfl⟩ := Option.map_eq_some_iff.1 h1
      exact hr.keep hk (hx _ (by omega))
    · rw [List.getElem?_set_ne (Ne.symm hcc)] at h1 h2
      exact (H.rows c' v' rs' h1 h2 (by omega)).keep hk (hx _ (by omega))
  · have he' : i = G := he
    rw [he']; exact H.low G (by rw [hG]; omega)
/-- The reader goes on. -/
theorem PIx.psk {w' : World} {i' : Nat} {d' : Int} (H : PIx h w0 w ρ P G cap s i d n vs R) (hk : Kb (fun j => j = P) w w') (hp : PsB w' P s i' (.slice (some ⟨G, 0, none⟩) n cap) d' false) : PIx h w0 w' ρ P G cap s i' d' n vs R := by
  have hP := H.rP
  refine ⟨hp, own_kb H.own hk (fun g hg he => ?_), H.len, fun c v rs h1 h2 h3' => (H.rows c v rs h1 h2 h3').keep hk (fun i hi he => by rw [show i = P from he, hP]; omega), H.rP, H.rG, H.low, H.bel.trans (hk.below H.bel.size (fun i he => by rw [show i = P from he]; exact H.low P (by rw [hP]; omega)))⟩
  have : G = g := by simpa [Value.ownBlock] using hg
  exact H.neq (by rw [this]; exact he.symm)
end
def flatG (gs : List Grp) : List (List Rx) := gs.flatMap fun g => [g.ways, g.row]
theorem flatG_append (a b : List Grp) : flatG (a ++ b) = flatG a ++ flatG b := List.flatMap_append
theorem flatG_one (g : Grp) : flatG [g] = [g.ways, g.row] := rfl
theorem flatG_len (a : List Grp) : (flatG a).length = a.length * 2 := by
  induction a with
  | nil => rfl
  | cons x a ih => show (x.ways :: x.row :: flatG a).length = _; simp [ih]; omega
theorem flatG_ways (lo : List Grp) (g : Grp) : (flatG (lo ++ [g]))[lo.length * 2]? = some g.ways := by
  rw [flatG_append, List.getElem?_append_right (by rw [flatG_len]; exact Nat.le_refl _), flatG_len, Nat.sub_self]; rfl
theorem flatG_row (lo : List Grp) (g : Grp) : (flatG (lo ++ [g]))[lo.length * 2 + 1]? = some g.row := by
  rw [flatG_append, List.getElem?_append_right (by rw [flatG_len]; omega), flatG_len, Nat.add_sub_cancel_left]; rfl
theorem flatG_set_ways (lo : List Grp) (g : Grp) (x : List Rx) : (flatG (lo ++ [g])).set (lo.length * 2) x = flatG (lo ++ [⟨x, g.row⟩]) := by
  rw [flatG_append, flatG_append, List.set_append_right _ _ (by rw [flatG_len]; exact Nat.le_refl _), flatG_len, Nat.sub_self]; rfl
theorem flatG_set_row (lo : List Grp) (g : Grp) (x : List Rx) : (flatG (lo ++ [g])).set (lo.length * 2 + 1) x = flatG (lo ++ [⟨g.ways, x⟩]) := by
  rw [flatG_append, flatG_append, List.set_append_right _ _ (by rw [flatG_len]; omega), flatG_len, Nat.add_sub_cancel_left]; rfl

/-- The parser's state, as it is between calls. -/
def PI (w0 w : World) (P G cap : Nat) (s : ByteArray) (i : Nat) (d : Int) (gs : List Grp) : Prop :=
  ∃ ρ vs, PIx 0 w0 w ρ P G cap s i d gs.length vs (flatG gs) ∧ ∀ i, w.heap.size ≤ i → ρ i = 0
theorem PI.below {w0 w w' : World} {P G cap : Nat} {s : ByteArray} {i : Nat} {d : Int} {gs : List Grp} (H : PI w0 w P G cap s i d gs) (hb : Below w.heap.size w w') : PI w0 w' P G cap s i d gs := by
  obtain ⟨ρ, vs, h1, h2⟩ := H
  exact ⟨ρ, vs, h1.below hb, fun i hi => h2 i (Nat.le_trans hb.size hi)⟩
theorem PI.psk {w0 w w' : World} {P G cap : Nat} {s : ByteArray} {i i' : Nat} {d d' : Int} {gs : List Grp} (H : PI w0 w P G cap s i d gs) (hk : Kb (fun j => j = P) w w') (hp : PsB w' P s i' (.slice (some ⟨G, 0, none⟩) gs.length cap) d' false) : PI w0 w' P G cap s i' d' gs := by
  obtain ⟨ρ, vs, h1, h2⟩ := H
  exact ⟨ρ, vs, h1.psk hk hp, fun i hi => h2 i (Nat.le_trans hk.size hi)⟩
theorem PI.ps {w0 w : World} {P G cap : Nat} {s : ByteArray} {i : Nat} {d : Int} {gs : List Grp} (H : PI w0 w P G cap s i d gs) : PsB w P s i (.slice (some ⟨G, 0, none⟩) gs.length cap) d false := by
  obtain ⟨ρ, vs, h1, h2⟩ := H
  exact h1.ps
theorem PI.bel {w0 w : World} {P G cap : Nat} {s : ByteArray} {i : Nat} {d : Int} {gs : List Grp} (H : PI w0 w P G cap s i d gs) : Below w0.heap.size w0 w := by
  obtain ⟨ρ, vs, h1, h2⟩ := H
  exact h1.bel
theorem PI.cap {w0 w : World} {P G cap : Nat} {s : ByteArray} {i : Nat} {d : Int} {gs : List Grp} (H : PI w0 w P G cap s i d gs) : gs.length ≤ cap ∧ cap ≤ 9223372036854775807 := by
  obtain ⟨ρ, vs, h1, h2⟩ := H
  obtain ⟨cur, _, _, h3, h4, _⟩ := h1.blk
  unfold maxLen at h4
  exact ⟨h3, by omega⟩
end Go.Proofs.Ytejdfpieblkapaa

/- The parser's calls on groups: last, put. -/
namespace Go.Proofs.Ytejdfpieblkapaa
open Go.RowKit Go.Shelf

theorem ps_cells {w : World} {P : Nat} {s : ByteArray} {i : Nat} {ov : Value} {d : Int} {l : Bool} (h : PsB w P s i ov d l) : w.cell? ⟨P, 0, none⟩ = some (.string s) ∧ w.cell? ⟨P, 1, none⟩ = some (.int .i64 i) ∧ w.cell? ⟨P, 2, none⟩ = some ov ∧ w.cell? ⟨P, 3, none⟩ = some (.int .i64 d) ∧ w.cell? ⟨P, 4, none⟩ = some (.bool l) ∧ ∀ c, w.frozen? ⟨P, c, none⟩ = false := by
  unfold PsB at h
  exact ⟨by rw [Lib.cell_of_heap h]; rfl, by rw [Lib.cell_of_heap h]; rfl, by rw [Lib.cell_of_heap h]; rfl, by rw [Lib.cell_of_heap h]; rfl, by rw [Lib.cell_of_heap h]; rfl, fun c => Lib.frozen_of_heap h c⟩

set_option maxHeartbeats 1000000 in
theorem last_ps (w : World) (P G n k cap : Nat) (s : ByteArray) (i : Nat) (d : Int) (h : PsB w P s i (.slice (some ⟨G, 0, none⟩) n cap) d false) (hn : n = k + 1) (hk : k ≤ 1000) :
    Calls Try.prog 23 #[ptr P] w fun e w' => e = .returned (.pointer (some ⟨G, k * 2, none⟩)) ∧ Below w.heap.size w w' := by
  obtain ⟨_, _, c2, _, _, _⟩ := ps_cells h
  have p1 : IntKind.i64.wrap ((n : Int) - 1) = (k : Int) := by rw [IntWalk.i64_in _ (by omega)]; omega
  have p2 : (k : Int) < (n : Int) := by omega
  have p3 : (0 : Int) ≤ (k : Int) := by omega
  clear hn h
  go_enter Try.func23, Try.ntmps23
  go_wp2_with fail
  go_quiet (fail)
  go_wp2
  go_ret
  exact ⟨rfl, below_drewN _ _ _⟩

theorem far_cell {ex : Nat → Prop} {w w6 : World} {a : Addr} (hk : Kb ex w w6) (hl : a.block < w.heap.size) (hne : ¬ ex a.block) : w6.cell? a = w.cell? a ∧ w6.frozen? a = w.frozen? a := ⟨World.cell?_of_block (hk.block _ hl hne), World.frozen?_of_block (hk.block _ hl hne)⟩
theorem ndq_kb {w w' : World} {ρ : Nat → Nat} {ex : Nat → Prop} {r : Rx} {b : Nat} (h : NdQ w (fun i => ρ i = 0) r b) (hk : Kb ex w w') (hx : ∀ i, i < w.heap.size → ex i → ρ i ≠ 0) : NdQ w' (fun i => ρ i = 0) r b := by
  have h4 := h.mono (Q' := fun i => ρ i = 0 ∧ i < w.heap.size) (fun i hi hq => ⟨hq, hi⟩)
  have h5 := h4.keep (w' := w') (KeepQ.kb hk (fun i hi he => hx i hi.2 he hi.1))
  exact h5.mono (fun i _ hq => hq.1)
/-- The parser's state, and a node that isn't in it yet. -/
def PIn (w0 w : World) (P G cap : Nat) (s : ByteArray) (i : Nat) (d : Int) (gs : List Grp) (r : Rx) (nb : Nat) : Prop :=
  ∃ ρ vs, PIx 0 w0 w ρ P G cap s i d gs.length vs (flatG gs) ∧ (∀ i, w.heap.size ≤ i → ρ i = 0) ∧ NdQ w (fun i => ρ i = 0) r nb
theorem ndq_fresh {w w' : World} {ρ : Nat → Nat} {r : Rx} {nb : Nat} (hf : ∀ i, w.heap.size ≤ i → ρ i = 0) (h : NdQ w' (fun i => ρ i = 0 ∨ w.heap.size ≤ i) r nb) : NdQ w' (fun i => ρ i = 0) r nb := h.mono (fun i _ hi => hi.elim id (hf i))
/-- A node is put behind a row. -/
theorem PIx.app {w0 w w6 : World} {ρ : Nat → Nat} {P G cap : Nat} {s : ByteArray} {i : Nat} {d : Int} {n : Nat} {vs : List Value} {R : List (List Rx)} (H : PIx 0 w0 w ρ P G cap s i d n vs R) (hf : ∀ i, w.heap.size ≤ i → ρ i = 0)
    {c : Nat} {b v' : Value} {rs : List Rx} {bs : List Nat} {gg : Nat} {r : Rx} {nb : Nat} (hb : vs[c]? = some b) (hbs : NdsQ w (fun i => ρ i = 0) rs bs) (hbr : ∀ g, b.ownBlock = some g → ρ g = 3 + c) (_hbo : w.ownsRow 0 23 1 b rs.length (bs.map ptr)) (hnb : NdQ w (fun i => ρ i = 0) r nb)
    (hk : Kb (fun i => some i = b.ownBlock) w w6) (ho : w6.ownsRow 0 23 1 v' (rs.length + 1) (bs.map ptr ++ [ptr nb])) (hv : v'.ownBlock = some gg) (hg : b.ownBlock = some gg ∨ w.heap.size ≤ gg) :
    ∃ ρ', PIx 0 w0 (w6.setCell ⟨G, c, none⟩ v') ρ' P G cap s i d n (vs.set c v') (R.set c (rs ++ [r])) ∧ ∀ i, (w6.setCell ⟨G, c, none⟩ v').heap.size ≤ i → ρ' i = 0 := by
  have hc : c < vs.length := (List.getElem?_eq_some_iff.1 hb).1
  obtain ⟨ρ', hρ'⟩ : ∃ ρ' : Nat → Nat, ρ' = fun i => if i = gg then 3 + c else ρ i := ⟨_, rfl⟩
  have hgg : ρ' gg = 3 + c := by rw [hρ']; simp
  have hne : ∀ i, i ≠ gg → ρ' i = ρ i := fun i hi => by rw [hρ']; simp [hi]
  have heq : ∀ i, i < w.heap.size → ρ' i = ρ i := fun i hi => by
    by_cases hi' : i = gg
    · subst hi'
      rcases hg with hg | hg
      · rw [hgg, hbr _ hg]
      · omega
    · exact hne i hi'
  clear hρ'
  have hlow : ∀ i, ρ' i ≠ 0 → w0.heap.size ≤ i := fun i hi => by
    rcases Nat.lt_or_ge i w.heap.size with h | h
    · exact H.low i (by rw [← heq i h]; exact hi)
    · exact Nat.le_trans H.bel.size h
  have hx : ∀ i, i < w.heap.size → some i = b.ownBlock → ρ' i = 3 + c := fun i hi he => by rw [heq i hi]; exact hbr i he.symm
  have H2 := ((H.rho heq hlow).hole (h := 3 + c)).kb hk hx (by omega)
  have hnd : ∀ {r : Rx} {b : Nat}, NdQ w (fun i => ρ i = 0) r b → NdQ w6 (fun i => ρ' i = 0) r b := fun h => ndq_kb (h.mono (fun i hi hq => (heq i hi).trans hq)) hk (fun i hi he => by rw [hx i hi he]; omega)
  have hr : RwAt w6 ρ' (3 + c) v' (rs ++ [r]) := by
    refine ⟨bs ++ [nb], by rw [List.length_append, List.map_append]; exact ho, ⟨by simp [hbs.1], fun j x y h1 h2 => ?_⟩, fun g hg' => by rw [hv] at hg'; injection hg' with e; rw [← e]; exact hgg⟩
    have hl := hbs.1
    rcases Nat.lt_or_ge j bs.length with hj | hj
    · rw [List.getElem?_append_left (by omega)] at h1
      rw [List.getElem?_append_left hj] at h2
      exact hnd (hbs.2 j x y h1 h2)
    · have hj2 : j = bs.length := by
        have := (List.getElem?_eq_some_iff.1 h2).1
        simp at this; omega
      subst hj2
      rw [← hl] at h1
      have e1 : r = x := by simpa using h1
      have e2 : nb = y := by simpa using h2
      subst e1; subst e2
      exact hnd hnb
  refine ⟨ρ', H2.set hc hr, fun i hi => ?_⟩
  have hz : (w6.setCell ⟨G, c, none⟩ v').heap.size = w6.heap.size := by simp [World.setCell]
  rw [hz] at hi
  have hlt := own_lt ho hv
  have := hk.size
  rw [hne i (by omega)]
  exact hf i (by omega)

/-- A group's slices. -/
theorem PIx.last {w0 w : World} {ρ : Nat → Nat} {P G cap : Nat} {s : ByteArray} {i : Nat} {d : Int} {lo : List Grp} {g : Grp} {vs : List Value} (H : PIx 0 w0 w ρ P G cap s i d (lo ++ [g]).length vs (flatG (lo ++ [g]))) :
    ∃ a b : Value, vs[lo.length * 2]? = some a ∧ vs[lo.length * 2 + 1]? = some b ∧ RwAt w ρ (3 + lo.length * 2) a g.ways ∧ RwAt w ρ (3 + (lo.length * 2 + 1)) b g.row := by
  have hl := H.lenv
  rw [List.length_append, List.length_singleton] at hl
  obtain ⟨a, ha⟩ : ∃ a, vs[lo.length * 2]? = some a := ⟨_, List.getElem?_eq_getElem (by omega)⟩
  obtain ⟨b, hb⟩ : ∃ b, vs[lo.length * 2 + 1]? = some b := ⟨_, List.getElem?_eq_getElem (by omega)⟩
  exact ⟨a, b, ha, hb, H.rows _ _ _ ha (flatG_ways lo g) (by omega), H.rows _ _ _ hb (flatG_row lo g) (by omega)⟩

set_option maxRecDepth 100000 in
set_option maxHeartbeats 2000000 in
theorem put_any (w0 w : World) (P G cap : Nat) (s : ByteArray) (i : Nat) (d : Int) (lo : List Grp) (g : Grp) (r : Rx) (nb : Nat) (H : PIn w0 w P G cap s i d (lo ++ [g]) r nb) (hlo : lo.length ≤ 100) (hrow : g.row.length ≤ 1000) :
    Calls Try.prog 55 #[ptr P, ptr nb] w fun e w' => e = .returned (.tuple #[]) ∧ PI w0 w' P G cap s i d (lo ++ [g.put r]) := by
  obtain ⟨ρ, vs, H1, hf, hnb⟩ := H
  obtain ⟨a, b, ha, hb, ra, rb⟩ := H1.last
  obtain ⟨bs, hbo, hbs, hbr⟩ := rb
  obtain ⟨A, c, hbv, hcap, hcap2⟩ := own_form hbo
  subst hbv
  obtain ⟨_, _, _, _, c4, _⟩ := ps_cells H1.ps
  have hlen : (lo ++ [g]).length = lo.length + 1 := by simp
  have HL := Lib.hid (fun (w' : World) (hp : PsB w' P s i (.slice (some ⟨G, 0, none⟩) (lo ++ [g]).length cap) d false) => last_ps w' P G (lo ++ [g]).length lo.length cap s i d hp hlen (by omega))
  obtain ⟨k2, hk2⟩ : ∃ k2, k2 = lo.length * 2 := ⟨_, rfl⟩
  rw [← hk2] at HL hb hbr
  have HK2 := Lib.hid hk2
  obtain ⟨i0, hi0, hz0, hz1, hz2⟩ := info_parts Try.info23
  have HI := Lib.hid hi0; have HZ0 := Lib.hid hz0; have HZ1 := Lib.hid hz1; have HZ2 := Lib.hid hz2
  clear hi0 hz0 hz1 hz2
  obtain ⟨m, hm⟩ : ∃ m, m = g.row.length := ⟨_, rfl⟩
  rw [← hm] at hbo hcap hrow hb hbr
  have HM := Lib.hid hm
  have HX := Lib.hid H1; have HF := Lib.hid hf; have HN := Lib.hid hnb; have HB := Lib.hid hb; have HBO := Lib.hid hbo; have HBS := Lib.hid hbs; have HBR := Lib.hid hbr
  clear H1 hf hnb ha hb ra hbo hbs hbr hlen hk2 hm
  go_enter Try.func55, Try.ntmps55
  go_wp2_with fail
  refine (HL.out w HX.out.ps).mono ?_
  rintro e w1 ⟨rfl, hb1⟩
  have HX1 := Lib.hid (HX.out.below hb1)
  have HB1 := Lib.hid hb1
  clear hb1
  go_wp2_with fail
  refine (HL.out w1 HX1.out.ps).mono ?_
  rintro e w2 ⟨rfl, hb2⟩
  have HB2 := Lib.hid (below_tr HB1.out hb2 HB1.out.size)
  have HX2 := Lib.hid (HX1.out.below hb2)
  clear hb2
  have q1 := HX2.out.cell HB.out
  have hk2' := Kb.of_below (fun _ => False) HB2.out
  have HO2 := Lib.hid (own_kb HBO.out hk2' (fun _ _ h => h))
  have HN2 := Lib.hid (ndq_kb HN.out hk2' (fun _ _ h => h.elim))
  have HBS2 := Lib.hid (show NdsQ w2 (fun i => ρ i = 0) g.row bs from ⟨HBS.out.1, fun j x y h1 h2 => ndq_kb (HBS.out.2 j x y h1 h2) hk2' (fun _ _ h => h.elim)⟩)
  clear hk2'
  go_wp2_with (at_builtin; refine wpList_append_lies _ rfl _ _ 47 rfl 0 23 i0 _ 1 8 Try.underlying47 HI.out HZ0.out HZ1.out HZ2.out rfl (by omega) (.slice A m c) m _ rfl (HO2.out.alloc _) ⟨w2.heap.size, 0, none⟩ 1 1 [ptr nb] rfl rfl (World.news_of_block (cs := #[ptr nb]) (t := 23) (fr := (0, 0)) (heap_alloc_new w2 _)) (by simp [Value.oneCell']) (by omega) (by unfold maxLen; omega) (by omega) (by simp) (w2.heap.size + 1) (by simp) ?_)
  intro gg cap6 w6 hown6 hgrow6 hat6 hlt6
  have hg6 := grown_kb hgrow6
  have hne : ¬ some G = (Value.slice A m c).ownBlock := fun he => by
    have h1 := HBR.out G he.symm
    rw [HX.out.rG] at h1; omega
  obtain ⟨hfc, hff⟩ := far_cell (a := ⟨G, k2 + 1, none⟩) hg6 HX2.out.ltG hne
  rw [HX2.out.cell HB.out] at hfc
  rw [HX2.out.frozen] at hff
  obtain ⟨ρ', hp, hf'⟩ := HX2.out.app (fun i hi => HF.out i (Nat.le_trans HB2.out.size hi)) HB.out HBS2.out HBR.out (by rw [← HM.out]; exact HO2.out) HN2.out hg6 (by rw [← HM.out]; exact hown6) rfl (hat6.imp id (fun h => by omega))
  have HFin := Lib.hid (show PI w0 (w6.setCell ⟨G, k2 + 1, none⟩ (.slice (some ⟨gg, 0, none⟩) (m + 1) cap6)) P G cap s i d (lo ++ [g.put r]) from ⟨ρ', _, by
    have e1 : (flatG (lo ++ [g])).set (k2 + 1) (g.row ++ [r]) = flatG (lo ++ [g.put r]) := by rw [HK2.out]; exact flatG_set_row lo g _
    have e2 : (lo ++ [g]).length = (lo ++ [g.put r]).length := by simp
    rw [← e1, ← e2]; exact hp, hf'⟩)
  clear hown6 hgrow6 hat6 hlt6 hg6 hp hf'
  go_wp2
  go_end0
  exact ⟨rfl, HFin.out⟩
end Go.Proofs.Ytejdfpieblkapaa
