/- The parser's state in memory. -/
import Derived.Test.YtejdfpieblkapaaM32
namespace Go.Proofs.Ytejdfpieblkapaa
open Go.RowKit Go.Shelf

/-- A row of nodes that is the parser's own: its block has a role, the nodes' blocks have none. -/
def RwAt (w : World) (ρ : Nat → Nat) (role : Nat) (v : Value) (rs : List Rx) : Prop :=
  ∃ bs : List Nat, w.ownsRow 0 23 1 v rs.length (bs.map ptr) ∧ NdsQ w (fun i => ρ i = 0) rs bs ∧ ∀ g, v.ownBlock = some g → ρ g = role
theorem own_lt {w : World} {base e size n : Nat} {v : Value} {xs : List Value} (h : w.ownsRow base e size v n xs) {g : Nat} (hg : v.ownBlock = some g) : g < w.heap.size := by
  obtain ⟨_, cs, hc⟩ := own_ty h hg
  exact lt_of_heap hc
theorem RwAt.keep {w w' : World} {ρ : Nat → Nat} {role : Nat} {v : Value} {rs : List Rx} {ex : Nat → Prop} (h : RwAt w ρ role v rs) (hk : Kb ex w w') (hx : ∀ i, i < w.heap.size → ex i → ρ i ≠ 0 ∧ ρ i ≠ role) : RwAt w' ρ role v rs := by
  obtain ⟨bs, h1, h2, h3⟩ := h
  refine ⟨bs, own_kb h1 hk (fun g hg he => (hx g (own_lt h1 hg) he).2 (h3 g hg)), ⟨h2.1, fun i r b hr hb => ?_⟩, h3⟩
  have h4 := (h2.2 i r b hr hb).mono (Q' := fun i => ρ i = 0 ∧ i < w.heap.size) (fun i hi hq => ⟨hq, hi⟩)
  have h5 := h4.keep (w' := w') (KeepQ.kb hk (fun i hi he => (hx i hi.2 he).1 hi.1))
  exact h5.mono (fun i _ hq => hq.1)
theorem RwAt.rho {w : World} {ρ ρ' : Nat → Nat} {role : Nat} {v : Value} {rs : List Rx} (h : RwAt w ρ role v rs) (hr : ∀ i, i < w.heap.size → ρ' i = ρ i) : RwAt w ρ' role v rs := by
  obtain ⟨bs, h1, h2, h3⟩ := h
  exact ⟨bs, h1, h2.mono (fun i hi hq => (hr i hi).trans hq), fun g hg => (hr g (own_lt h1 hg)).trans (h3 g hg)⟩
theorem RwAt.nil (w : World) (ρ : Nat → Nat) (role : Nat) : RwAt w ρ role (.slice none 0 0) [] := ⟨[], ⟨rfl, .inl ⟨rfl, rfl⟩⟩, ⟨rfl, fun i r b h => by simp at h⟩, fun g hg => by simp [Value.ownBlock] at hg⟩

/-- The parser's state; the row of the role h may be in the making. -/
structure PIx (h : Nat) (w0 w : World) (ρ : Nat → Nat) (P G cap : Nat) (s : ByteArray) (i : Nat) (d : Int) (n : Nat) (vs : List Value) (R : List (List Rx)) : Prop where
  ps : PsB w P s i (.slice (some ⟨G, 0, none⟩) n cap) d false
  own : w.ownsRow 0 88 2 (.slice (some ⟨G, 0, none⟩) n cap) n vs
  len : R.length = vs.length
  rows : ∀ c v rs, vs[c]? = some v → R[c]? = some rs → 3 + c ≠ h → RwAt w ρ (3 + c) v rs
  rP : ρ P = 1
  rG : ρ G = 2
  low : ∀ i, ρ i ≠ 0 → w0.heap.size ≤ i
  bel : Below w0.heap.size w0 w

section
variable {h : Nat} {w0 w w' : World} {ρ ρ' : Nat → Nat} {P G cap : Nat} {s : ByteArray} {i : Nat} {d : Int} {n : Nat} {vs : List Value} {R : List (List Rx)}
theorem PIx.hole (H : PIx 0 w0 w ρ P G cap s i d n vs R) : PIx h w0 w ρ P G cap s i d n vs R := ⟨H.ps, H.own, H.len, fun c v rs h1 h2 _ => H.rows c v rs h1 h2 (by omega), H.rP, H.rG, H.low, H.bel⟩
theorem PIx.lenv (H : PIx h w0 w ρ P G cap s i d n vs R) : vs.length = n * 2 := H.own.1
theorem PIx.blk (H : PIx h w0 w ρ P G cap s i d n vs R) : ∃ cur : Array Value, w.heap[G]? = some (.cells cur 88 (0, 0)) ∧ cur.toList.take (n * 2) = vs ∧ n ≤ cap ∧ cap ≤ maxLen ∧ cur.size = cap * 2 := by
  rcases H.own.2 with ⟨hv, _⟩ | ⟨g, c, cur, hv, _, hh, h1, h2, h3, h4⟩
  · simp at hv
  · have e1 : G = g := by injection hv with e; injection e with e; injection e
    have e2 : cap = c := by injection hv
    subst e1; subst e2
    exact ⟨cur, hh, h4, h1, h2, h3⟩
theorem PIx.cell (H : PIx h w0 w ρ P G cap s i d n vs R) {c : Nat} {v : Value} (hc : vs[c]? = some v) : w.cell? ⟨G, c, none⟩ = some v := by
  obtain ⟨cur, h1, h2, _⟩ := H.blk
  rw [Lib.cell_of_heap h1]
  rw [← h2, List.getElem?_take] at hc
  split at hc
  · simpa using hc
  · cases hc
theorem PIx.frozen (H : PIx h w0 w ρ P G cap s i d n vs R) (c : Nat) : w.frozen? ⟨G, c, none⟩ = false := by
  obtain ⟨cur, h1, _⟩ := H.blk
  exact Lib.frozen_of_heap h1 c
theorem PIx.ltG (H : PIx h w0 w ρ P G cap s i d n vs R) : G < w.heap.size := by obtain ⟨cur, h1, _⟩ := H.blk; exact lt_of_heap h1
theorem PIx.ltP (H : PIx h w0 w ρ P G cap s i d n vs R) : P < w.heap.size := lt_of_heap H.ps
theorem PIx.neq (H : PIx h w0 w ρ P G cap s i d n vs R) : P ≠ G := fun e => by have h1 := H.rP; rw [e, H.rG] at h1; omega
theorem PIx.rho (H : PIx h w0 w ρ P G cap s i d n vs R) (hr : ∀ i, i < w.heap.size → ρ' i = ρ i) (hl : ∀ i, ρ' i ≠ 0 → w0.heap.size ≤ i) : PIx h w0 w ρ' P G cap s i d n vs R :=
  ⟨H.ps, H.own, H.len, fun c v rs h1 h2 h3 => (H.rows c v rs h1 h2 h3).rho hr, (hr _ H.ltP).trans H.rP, (hr _ H.ltG).trans H.rG, hl, H.bel⟩
/-- What changes is the row in the making alone. -/
theorem PIx.kb {ex : Nat → Prop} (H : PIx h w0 w ρ P G cap s i d n vs R) (hk : Kb ex w w') (hx : ∀ i, i < w.heap.size → ex i → ρ i = h) (h3 : 3 ≤ h) : PIx h w0 w' ρ P G cap s i d n vs R := by
  have hP : ¬ ex P := fun he => by have h1 := hx P H.ltP he; rw [H.rP] at h1; omega
  have hG : ¬ ex G := fun he => by have h1 := hx G H.ltG he; rw [H.rG] at h1; omega
  refine ⟨(hk.block P H.ltP hP).trans H.ps, own_kb H.own hk (fun g hg => ?_), H.len, fun c v rs h1 h2 h3' => (H.rows c v rs h1 h2 h3').keep hk (fun i hi he => ⟨by rw [hx i hi he]; omega, by rw [hx i hi he]; omega⟩), H.rP, H.rG, H.low, H.bel.trans (hk.below H.bel.size ?_)⟩
  · have : G = g := by simpa [Value.ownBlock] using hg
    subst this; exact hG
  · intro i he
    rcases Nat.lt_or_ge i w.heap.size with hi | hi
    · exact H.low i (by rw [hx i hi he]; omega)
    · exact Nat.le_trans H.bel.size hi
theorem PIx.below (H : PIx h w0 w ρ P G cap s i d n vs R) (hb : Below w.heap.size w w') : PIx h w0 w' ρ P G cap s i d n vs R := by
  have hk := Kb.of_below (fun _ => False) hb
  refine ⟨H.ps.below hb, own_kb H.own hk (fun _ _ h => h), H.len, fun c v rs h1 h2 h3' => (H.rows c v rs h1 h2 h3').keep hk (fun i hi he => he.elim), H.rP, H.rG, H.low, below_tr H.bel hb H.bel.size⟩
/-- A row is done. -/
theorem PIx.fill {c : Nat} {v : Value} {rs : List Rx} (H : PIx (3 + c) w0 w ρ P G cap s i d n vs R) (hv : vs[c]? = some v) (hr : RwAt w ρ (3 + c) v rs) : PIx 0 w0 w ρ P G cap s i d n vs (R.set c rs) :=
  ⟨H.ps, H.own, by rw [List.length_set]; exact H.len, fun c' v' rs' h1 h2 _ => by
    by_cases hc : c' = c
    · subst hc
      rw [hv] at h1
      injection h1 with h1
      rw [List.getElem?_set_self' ] at h2
      obtain ⟨_, _, rfl⟩ := Option.map_eq_some_iff.1 h2
      rw [← h1]; exact hr
    · rw [List.getElem?_set_ne (Ne.symm hc)] at h2
      exact H.rows c' v' rs' h1 h2 (by omega), H.rP, H.rG, H.low, H.bel⟩
/-- A row is done, and put into its group. -/
theorem PIx.set {c : Nat} {v : Value} {rs : List Rx} (H : PIx (3 + c) w0 w ρ P G cap s i d n vs R) (hc : c < vs.length) (hr : RwAt w ρ (3 + c) v rs) : PIx 0 w0 (w.setCell ⟨G, c, none⟩ v) ρ P G cap s i d n (vs.set c v) (R.set c rs) := by
  obtain ⟨cur, h1, h2, h3, h4, h5⟩ := H.blk
  have hk := Kb.setCell w ⟨G, c, none⟩ v
  have hG := H.rG
  have hx : ∀ role, 3 ≤ role → ∀ i, i < w.heap.size → i = G → ρ i ≠ 0 ∧ ρ i ≠ role := fun role h3 i _ he => by rw [he, hG]; omega
  have hl := H.lenv
  refine ⟨(hk.block P H.ltP H.neq).trans H.ps, ⟨by rw [List.length_set]; exact hl, .inr ⟨G, cap, cur.set! c v, rfl, Nat.zero_le _, set_heap w G c cur v 88 (0, 0) h1, h3, h4, by simp [h5], ?_⟩⟩, by rw [List.length_set, List.length_set]; exact H.len, fun c' v' rs' h1 h2 _ => ?_, H.rP, H.rG, H.low, H.bel.trans (hk.below H.bel.size (fun i he => ?_))⟩
  · rw [← h2]
    simp only [Array.set!_eq_setIfInBounds, Array.toList_setIfInBounds]
    rw [List.take_set]
  · by_cases hcc : c' = c
    · subst hcc
      rw [List.getElem?_set_self' ] at h1 h2
      obtain ⟨_, _, rfl⟩ := Option.map_eq_some_iff.1 h2
      obtain ⟨_, _, rfl⟩ := Option.map_eq_some_iff.1 h1
      exact hr.keep hk (hx _ (by omega))
    · rw [List.getElem?_set_ne (Ne.symm hcc)] at h1 h2
      exact (H.rows c' v' rs' h1 h2 (by omega)).keep hk (hx _ (by omega))
  · have he' : i = G := he
    rw [he']; exact H.low G (by rw [hG]; omega)
/-- The reader goes on. -/
theorem PIx.psk {w' : World} {i' : Nat} {d' : Int} (H : PIx h w0 w ρ P G cap s i d n vs R) (hk : Kb (fun j => j = P) w w') (hp : PsB w' P s i' (.slice (some ⟨G, 0, none⟩) n cap) d' false) : PIx h w0 w' ρ P G cap s i' d' n vs R := by
  have hP := H.rP
  refine ⟨hp, own_kb H.own hk (fun g hg he => ?_), H.len, fun c v rs h1 h2 h3' => (H.rows c v rs h1 h2 h3').keep hk (fun i hi he => by rw [show i = P from he, hP]; omega), H.rP, H.rG, H.low, H.bel.trans (hk.below H.bel.size (fun i he => by rw [show i = P from he]; exact H.low P (by rw [hP]; omega)))⟩
  have : G = g := by simpa [Value.ownBlock] using hg
  exact H.neq (by rw [this]; exact he.symm)
end
def flatG (gs : List Grp) : List (List Rx) := gs.flatMap fun g => [g.ways, g.row]
theorem flatG_append (a b : List Grp) : flatG (a ++ b) = flatG a ++ flatG b := List.flatMap_append
theorem flatG_one (g : Grp) : flatG [g] = [g.ways, g.row] := rfl
theorem flatG_len (a : List Grp) : (flatG a).length = a.length * 2 := by
  induction a with
  | nil => rfl
  | cons x a ih => show (x.ways :: x.row :: flatG a).length = _; simp [ih]; omega
theorem flatG_ways (lo : List Grp) (g : Grp) : (flatG (lo ++ [g]))[lo.length * 2]? = some g.ways := by
  rw [flatG_append, List.getElem?_append_right (by rw [flatG_len]; exact Nat.le_refl _), flatG_len, Nat.sub_self]; rfl
theorem flatG_row (lo : List Grp) (g : Grp) : (flatG (lo ++ [g]))[lo.length * 2 + 1]? = some g.row := by
  rw [flatG_append, List.getElem?_append_right (by rw [flatG_len]; omega), flatG_len, Nat.add_sub_cancel_left]; rfl
theorem flatG_set_ways (lo : List Grp) (g : Grp) (x : List Rx) : (flatG (lo ++ [g])).set (lo.length * 2) x = flatG (lo ++ [⟨x, g.row⟩]) := by
  rw [flatG_append, flatG_append, List.set_append_right _ _ (by rw [flatG_len]; exact Nat.le_refl _), flatG_len, Nat.sub_self]; rfl
theorem flatG_set_row (lo : List Grp) (g : Grp) (x : List Rx) : (flatG (lo ++ [g])).set (lo.length * 2 + 1) x = flatG (lo ++ [⟨g.ways, x⟩]) := by
  rw [flatG_append, flatG_append, List.set_append_right _ _ (by rw [flatG_len]; omega), flatG_len, Nat.add_sub_cancel_left]; rfl

/-- The parser's state, as it is between calls. -/
def PI (w0 w : World) (P G cap : Nat) (s : ByteArray) (i : Nat) (d : Int) (gs : List Grp) : Prop :=
  ∃ ρ vs, PIx 0 w0 w ρ P G cap s i d gs.length vs (flatG gs) ∧ ∀ i, w.heap.size ≤ i → ρ i = 0
theorem PI.below {w0 w w' : World} {P G cap : Nat} {s : ByteArray} {i : Nat} {d : Int} {gs : List Grp} (H : PI w0 w P G cap s i d gs) (hb : Below w.heap.size w w') : PI w0 w' P G cap s i d gs := by
  obtain ⟨ρ, vs, h1, h2⟩ := H
  exact ⟨ρ, vs, h1.below hb, fun i hi => h2 i (Nat.le_trans hb.size hi)⟩
theorem PI.psk {w0 w w' : World} {P G cap : Nat} {s : ByteArray} {i i' : Nat} {d d' : Int} {gs : List Grp} (H : PI w0 w P G cap s i d gs) (hk : Kb (fun j => j = P) w w') (hp : PsB w' P s i' (.slice (some ⟨G, 0, none⟩) gs.length cap) d' false) : PI w0 w' P G cap s i' d' gs := by
  obtain ⟨ρ, vs, h1, h2⟩ := H
  exact ⟨ρ, vs, h1.psk hk hp, fun i hi => h2 i (Nat.le_trans hk.size hi)⟩
theorem PI.ps {w0 w : World} {P G cap : Nat} {s : ByteArray} {i : Nat} {d : Int} {gs : List Grp} (H : PI w0 w P G cap s i d gs) : PsB w P s i (.slice (some ⟨G, 0, none⟩) gs.length cap) d false := by
  obtain ⟨ρ, vs, h1, h2⟩ := H
  exact h1.ps
theorem PI.bel {w0 w : World} {P G cap : Nat} {s : ByteArray} {i : Nat} {d : Int} {gs : List Grp} (H : PI w0 w P G cap s i d gs) : Below w0.heap.size w0 w := by
  obtain ⟨ρ, vs, h1, h2⟩ := H
  exact h1.bel
theorem PI.cap {w0 w : World} {P G cap : Nat} {s : ByteArray} {i : Nat} {d : Int} {gs : List Grp} (H : PI w0 w P G cap s i d gs) : gs.length ≤ cap ∧ cap ≤ 9223372036854775807 := by
  obtain ⟨ρ, vs, h1, h2⟩ := H
  obtain ⟨cur, _, _, h3, h4, _⟩ := h1.blk
  unfold maxLen at h4
  exact ⟨h3, by omega⟩
end Go.Proofs.Ytejdfpieblkapaa
