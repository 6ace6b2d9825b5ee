/- Carried from another seat. -/
import Derived.Test.YtejdfpieblkapaaGreatDoorM30
namespace Go.Proofs.YtejdfpieblkapaaGreatDoor
open Go.RowKit Go.Shelf


/-- A row of nodes that is the parser's own: its block has a role, the nodes' blocks have none. -/
def RwAt (w : World) (ρ : Nat → Nat) (role : Nat) (v : Value) (rs : List Rx) : Prop :=
  ∃ bs : List Nat, w.ownsRow 0 68 1 v rs.length (bs.map ptr) ∧ NdsQ w (fun i => ρ i = 0) rs bs ∧ ∀ g, v.ownBlock = some g → ρ g = role
theorem own_lt {w : World} {base e size n : Nat} {v : Value} {xs : List Value} (h : w.ownsRow base e size v n xs) {g : Nat} (hg : v.ownBlock = some g) : g < w.heap.size := by
  obtain ⟨_, cs, hc⟩ := own_ty h hg
  exact lt_of_heap hc
theorem RwAt.keep {w w' : World} {ρ : Nat → Nat} {role : Nat} {v : Value} {rs : List Rx} {ex : Nat → Prop} (h : RwAt w ρ role v rs) (hk : Kb ex w w') (hx : ∀ i, i < w.heap.size → ex i → ρ i ≠ 0 ∧ ρ i ≠ role) : RwAt w' ρ role v rs := by
  obtain ⟨bs, h1, h2, h3⟩ := h
  refine ⟨bs, own_kb h1 hk (fun g hg he => (hx g (own_lt h1 hg) he).2 (h3 g hg)), ⟨h2.1, fun i r b hr hb => ?_⟩, h3⟩
  have h4 := (h2.2 i r b hr hb).mono (Q' := fun i => ρ i = 0 ∧ i < w.heap.size) (fun i hi hq => ⟨hq, hi⟩)
  have h5 := h4.keep (w' := w') (KeepQ.kb hk (fun i hi he => (hx i hi.2 he).1 hi.1))
  exact h5.mono (fun i _ hq => hq.1)
theorem RwAt.rho {w : World} {ρ ρ' : Nat → Nat} {role : Nat} {v : Value} {rs : List Rx} (h : RwAt w ρ role v rs) (hr : ∀ i, i < w.heap.size → ρ' i = ρ i) : RwAt w ρ' role v rs := by
  obtain ⟨bs, h1, h2, h3⟩ := h
  exact ⟨bs, h1, h2.mono (fun i hi hq => (hr i hi).trans hq), fun g hg => (hr g (own_lt h1 hg)).trans (h3 g hg)⟩
theorem RwAt.nil (w : World) (ρ : Nat → Nat) (role : Nat) : RwAt w ρ role (.slice none 0 0) [] := ⟨[], ⟨rfl, .inl ⟨rfl, rfl⟩⟩, ⟨rfl, fun i r b h => by simp at h⟩, fun g hg => by simp [Value.ownBlock] at hg⟩

/-- The parser's state; the row of the role h may be in the making. -/
structure PIx (h : Nat) (w0 w : World) (ρ : Nat → Nat) (P G cap : Nat) (s : ByteArray) (i : Nat) (d : Int) (n : Nat) (vs : List Value) (R : List (List Rx)) : Prop where
  ps : PsB w P s i (.slice (some ⟨G, 0, none⟩) n cap) d false
  own : w.ownsRow 0 168 2 (.slice (some ⟨G, 0, none⟩) n cap) n vs
  len : R.length = vs.length
  rows : ∀ c v rs, vs[c]? = some v → R[c]? = some rs → 3 + c ≠ h → RwAt w ρ (3 + c) v rs
  rP : ρ P = 1
  rG : ρ G = 2
  low : ∀ i, i < w0.heap.size → ρ i = 1 ∧ i ≠ P
  bel : Below w0.heap.size w0 w

section
variable {h : Nat} {w0 w w' : World} {ρ ρ' : Nat → Nat} {P G cap : Nat} {s : ByteArray} {i : Nat} {d : Int} {n : Nat} {vs : List Value} {R : List (List Rx)}
theorem PIx.lo (H : PIx h w0 w ρ P G cap s i d n vs R) {j : Nat} (hj : ρ j ≠ 1 ∨ j = P) : w0.heap.size ≤ j := by
  rcases Nat.lt_or_ge j w0.heap.size with h1 | h1
  · obtain ⟨a, b⟩ := H.low j h1
    rcases hj with hj | hj
    · exact absurd a hj
    · exact absurd hj b
  · exact h1
theorem PIx.hole (H : PIx 0 w0 w ρ P G cap s i d n vs R) : PIx h w0 w ρ P G cap s i d n vs R := ⟨H.ps, H.own, H.len, fun c v rs h1 h2 _ => H.rows c v rs h1 h2 (by omega), H.rP, H.rG, H.low, H.bel⟩
theorem PIx.lenv (H : PIx h w0 w ρ P G cap s i d n vs R) : vs.length = n * 2 := H.own.1
theorem PIx.blk (H : PIx h w0 w ρ P G cap s i d n vs R) : ∃ cur : Array Value, w.heap[G]? = some (.cells cur 168 (0, 0)) ∧ cur.toList.take (n * 2) = vs ∧ n ≤ cap ∧ cap ≤ maxLen ∧ cur.size = cap * 2 := by
  rcases H.own.2 with ⟨hv, _⟩ | ⟨g, c, cur, hv, _, hh, h1, h2, h3, h4⟩
  · simp at hv
  · have e1 : G = g := by injection hv with e; injection e with e; injection e
    have e2 : cap = c := by injection hv
    subst e1; subst e2
    exact ⟨cur, hh, h4, h1, h2, h3⟩
theorem PIx.cell (H : PIx h w0 w ρ P G cap s i d n vs R) {c : Nat} {v : Value} (hc : vs[c]? = some v) : w.cell? ⟨G, c, none⟩ = some v := by
  obtain ⟨cur, h1, h2, _⟩ := H.blk
  rw [Lib.cell_of_heap h1]
  rw [← h2, List.getElem?_take] at hc
  split at hc
  · simpa using hc
  · cases hc
theorem PIx.frozen (H : PIx h w0 w ρ P G cap s i d n vs R) (c : Nat) : w.frozen? ⟨G, c, none⟩ = false := by
  obtain ⟨cur, h1, _⟩ := H.blk
  exact Lib.frozen_of_heap h1 c
theorem PIx.ltG (H : PIx h w0 w ρ P G cap s i d n vs R) : G < w.heap.size := by obtain ⟨cur, h1, _⟩ := H.blk; exact lt_of_heap h1
theorem PIx.ltP (H : PIx h w0 w ρ P G cap s i d n vs R) : P < w.heap.size := lt_of_heap H.ps
theorem PIx.neq (H : PIx h w0 w ρ P G cap s i d n vs R) : P ≠ G := fun e => by have h1 := H.rP; rw [e, H.rG] at h1; omega
theorem PIx.rho (H : PIx h w0 w ρ P G cap s i d n vs R) (hr : ∀ i, i < w.heap.size → ρ' i = ρ i) (hl : ∀ i, i < w0.heap.size → ρ' i = 1 ∧ i ≠ P) : PIx h w0 w ρ' P G cap s i d n vs R :=
  ⟨H.ps, H.own, H.len, fun c v rs h1 h2 h3 => (H.rows c v rs h1 h2 h3).rho hr, (hr _ H.ltP).trans H.rP, (hr _ H.ltG).trans H.rG, hl, H.bel⟩
/-- What changes is the row in the making alone. -/
theorem PIx.kb {ex : Nat → Prop} (H : PIx h w0 w ρ P G cap s i d n vs R) (hk : Kb ex w w') (hx : ∀ i, i < w.heap.size → ex i → ρ i = h) (h3 : 3 ≤ h) : PIx h w0 w' ρ P G cap s i d n vs R := by
  have hP : ¬ ex P := fun he => by have h1 := hx P H.ltP he; rw [H.rP] at h1; omega
  have hG : ¬ ex G := fun he => by have h1 := hx G H.ltG he; rw [H.rG] at h1; omega
  refine ⟨(hk.block P H.ltP hP).trans H.ps, own_kb H.own hk (fun g hg => ?_), H.len, fun c v rs h1 h2 h3' => (H.rows c v rs h1 h2 h3').keep hk (fun i hi he => ⟨by rw [hx i hi he]; omega, by rw [hx i hi he]; omega⟩), H.rP, H.rG, H.low, H.bel.trans (hk.below H.bel.size ?_)⟩
  · have : G = g := by simpa [Value.ownBlock] using hg
    subst this; exact hG
  · intro i he
    rcases Nat.lt_or_ge i w.heap.size with hi | hi
    · exact H.lo (.inl (by rw [hx i hi he]; omega))
    · exact Nat.le_trans H.bel.size hi
theorem PIx.below (H : PIx h w0 w ρ P G cap s i d n vs R) (hb : Below w.heap.size w w') : PIx h w0 w' ρ P G cap s i d n vs R := by
  have hk := Kb.of_below (fun _ => False) hb
  refine ⟨H.ps.below hb, own_kb H.own hk (fun _ _ h => h), H.len, fun c v rs h1 h2 h3' => (H.rows c v rs h1 h2 h3').keep hk (fun i hi he => he.elim), H.rP, H.rG, H.low, below_tr H.bel hb H.bel.size⟩
/-- A row is done. -/
theorem PIx.fill {c : Nat} {v : Value} {rs : List Rx} (H : PIx (3 + c) w0 w ρ P G cap s i d n vs R) (hv : vs[c]? = some v) (hr : RwAt w ρ (3 + c) v rs) : PIx 0 w0 w ρ P G cap s i d n vs (R.set c rs) :=
  ⟨H.ps, H.own, by rw [List.length_set]; exact H.len, fun c' v' rs' h1 h2 _ => by
    by_cases hc : c' = c
    · subst hc
      rw [hv] at h1
      injection h1 with h1
      rw [List.getElem?_set_self' ] at h2
      obtain ⟨_, _, rfl⟩ := Option.map_eq_some_iff.1 h2
      rw [← h1]; exact hr
    · rw [List.getElem?_set_ne (Ne.symm hc)] at h2
      exact H.rows c' v' rs' h1 h2 (by omega), H.rP, H.rG, H.low, H.bel⟩
/-- A row is done, and put into its group. -/
theorem PIx.set {c : Nat} {v : Value} {rs : List Rx} (H : PIx (3 + c) w0 w ρ P G cap s i d n vs R) (hc : c < vs.length) (hr : RwAt w ρ (3 + c) v rs) : PIx 0 w0 (w.setCell ⟨G, c, none⟩ v) ρ P G cap s i d n (vs.set c v) (R.set c rs) := by
  obtain ⟨cur, h1, h2, h3, h4, h5⟩ := H.blk
  have hk := Kb.setCell w ⟨G, c, none⟩ v
  have hG := H.rG
  have hx : ∀ role, 3 ≤ role → ∀ i, i < w.heap.size → i = G → ρ i ≠ 0 ∧ ρ i ≠ role := fun role h3 i _ he => by rw [he, hG]; omega
  have hl := H.lenv
  refine ⟨(hk.block P H.ltP H.neq).trans H.ps, ⟨by rw [List.length_set]; exact hl, .inr ⟨G, cap, cur.set! c v, rfl, Nat.zero_le _, set_heap w G c cur v 168 (0, 0) h1, h3, h4, by simp [h5], ?_⟩⟩, by rw [List.length_set, List.length_set]; exact H.len, fun c' v' rs' h1 h2 _ => ?_, H.rP, H.rG, H.low, H.bel.trans (hk.below H.bel.size (fun i he => ?_))⟩
  · rw [← h2]
    simp only [Array.set!_eq_setIfInBounds, Array.toList_setIfInBounds]
    rw [List.take_set]
  · by_cases hcc : c' = c
    · subst hcc
      rw [List.getElem?_set_self' ] at h1 h2
      obtain ⟨_, _, rfl⟩ := Option.map_eq_some_iff.1 h2
      obtain ⟨_, _, rfl⟩ := Option.map_eq_some_iff.1 h1
      exact hr.keep hk (hx _ (by omega))
    · rw [List.getElem?_set_ne (Ne.symm hcc)] at h1 h2
      exact (H.rows c' v' rs' h1 h2 (by omega)).keep hk (hx _ (by omega))
  · have he' : i = G := he
    rw [he']; exact H.lo (.inl (by rw [hG]; omega))
/-- The reader goes on. -/
theorem PIx.psk {w' : World} {i' : Nat} {d' : Int} (H : PIx h w0 w ρ P G cap s i d n vs R) (hk : Kb (fun j => j = P) w w') (hp : PsB w' P s i' (.slice (some ⟨G, 0, none⟩) n cap) d' false) : PIx h w0 w' ρ P G cap s i' d' n vs R := by
  have hP := H.rP
  refine ⟨hp, own_kb H.own hk (fun g hg he => ?_), H.len, fun c v rs h1 h2 h3' => (H.rows c v rs h1 h2 h3').keep hk (fun i hi he => by rw [show i = P from he, hP]; omega), H.rP, H.rG, H.low, H.bel.trans (hk.below H.bel.size (fun i he => by rw [show i = P from he]; exact H.lo (.inr rfl)))⟩
  have : G = g := by simpa [Value.ownBlock] using hg
  exact H.neq (by rw [this]; exact he.symm)
end
def flatG (gs : List Grp) : List (List Rx) := gs.flatMap fun g => [g.ways, g.row]
theorem flatG_append (a b : List Grp) : flatG (a ++ b) = flatG a ++ flatG b := List.flatMap_append
theorem flatG_one (g : Grp) : flatG [g] = [g.ways, g.row] := rfl
theorem flatG_len (a : List Grp) : (flatG a).length = a.length * 2 := by
  induction a with
  | nil => rfl
  | cons x a ih => show (x.ways :: x.row :: flatG a).length = _; simp [ih]; omega
theorem flatG_ways (lo : List Grp) (g : Grp) : (flatG (lo ++ [g]))[lo.length * 2]? = some g.ways := by
  rw [flatG_append, List.getElem?_append_right (by rw [flatG_len]; exact Nat.le_refl _), flatG_len, Nat.sub_self]; rfl
theorem flatG_row (lo : List Grp) (g : Grp) : (flatG (lo ++ [g]))[lo.length * 2 + 1]? = some g.row := by
  rw [flatG_append, List.getElem?_append_right (by rw [flatG_len]; omega), flatG_len, Nat.add_sub_cancel_left]; rfl
theorem flatG_set_ways (lo : List Grp) (g : Grp) (x : List Rx) : (flatG (lo ++ [g])).set (lo.length * 2) x = flatG (lo ++ [⟨x, g.row⟩]) := by
  rw [flatG_append, flatG_append, List.set_append_right _ _ (by rw [flatG_len]; exact Nat.le_refl _), flatG_len, Nat.sub_self]; rfl
theorem flatG_set_row (lo : List Grp) (g : Grp) (x : List Rx) : (flatG (lo ++ [g])).set (lo.length * 2 + 1) x = flatG (lo ++ [⟨g.ways, x⟩]) := by
  rw [flatG_append, flatG_append, List.set_append_right _ _ (by rw [flatG_len]; omega), flatG_len, Nat.add_sub_cancel_left]; rfl

/-- The parser's state, as it is between calls. -/
def PI (w0 w : World) (P G cap : Nat) (s : ByteArray) (i : Nat) (d : Int) (gs : List Grp) : Prop :=
  ∃ ρ vs, PIx 0 w0 w ρ P G cap s i d gs.length vs (flatG gs) ∧ ∀ i, w.heap.size ≤ i → ρ i = 0
theorem PI.below {w0 w w' : World} {P G cap : Nat} {s : ByteArray} {i : Nat} {d : Int} {gs : List Grp} (H : PI w0 w P G cap s i d gs) (hb : Below w.heap.size w w') : PI w0 w' P G cap s i d gs := by
  obtain ⟨ρ, vs, h1, h2⟩ := H
  exact ⟨ρ, vs, h1.below hb, fun i hi => h2 i (Nat.le_trans hb.size hi)⟩
theorem PI.psk {w0 w w' : World} {P G cap : Nat} {s : ByteArray} {i i' : Nat} {d d' : Int} {gs : List Grp} (H : PI w0 w P G cap s i d gs) (hk : Kb (fun j => j = P) w w') (hp : PsB w' P s i' (.slice (some ⟨G, 0, none⟩) gs.length cap) d' false) : PI w0 w' P G cap s i' d' gs := by
  obtain ⟨ρ, vs, h1, h2⟩ := H
  exact ⟨ρ, vs, h1.psk hk hp, fun i hi => h2 i (Nat.le_trans hk.size hi)⟩
theorem PI.ps {w0 w : World} {P G cap : Nat} {s : ByteArray} {i : Nat} {d : Int} {gs : List Grp} (H : PI w0 w P G cap s i d gs) : PsB w P s i (.slice (some ⟨G, 0, none⟩) gs.length cap) d false := by
  obtain ⟨ρ, vs, h1, h2⟩ := H
  exact h1.ps
theorem PI.bel {w0 w : World} {P G cap : Nat} {s : ByteArray} {i : Nat} {d : Int} {gs : List Grp} (H : PI w0 w P G cap s i d gs) : Below w0.heap.size w0 w := by
  obtain ⟨ρ, vs, h1, h2⟩ := H
  exact h1.bel
theorem PI.cap {w0 w : World} {P G cap : Nat} {s : ByteArray} {i : Nat} {d : Int} {gs : List Grp} (H : PI w0 w P G cap s i d gs) : gs.length ≤ cap ∧ cap ≤ 9223372036854775807 := by
  obtain ⟨ρ, vs, h1, h2⟩ := H
  obtain ⟨cur, _, _, h3, h4, _⟩ := h1.blk
  unfold maxLen at h4
  exact ⟨h3, by omega⟩
end Go.Proofs.YtejdfpieblkapaaGreatDoor

/- Carried from another seat. -/
namespace Go.Proofs.YtejdfpieblkapaaGreatDoor
open Go.RowKit Go.Shelf


theorem ps_cells {w : World} {P : Nat} {s : ByteArray} {i : Nat} {ov : Value} {d : Int} {l : Bool} (h : PsB w P s i ov d l) : w.cell? ⟨P, 0, none⟩ = some (.string s) ∧ w.cell? ⟨P, 1, none⟩ = some (.int .i64 i) ∧ w.cell? ⟨P, 2, none⟩ = some ov ∧ w.cell? ⟨P, 3, none⟩ = some (.int .i64 d) ∧ w.cell? ⟨P, 4, none⟩ = some (.bool l) ∧ ∀ c, w.frozen? ⟨P, c, none⟩ = false := by
  unfold PsB at h
  exact ⟨by rw [Lib.cell_of_heap h]; rfl, by rw [Lib.cell_of_heap h]; rfl, by rw [Lib.cell_of_heap h]; rfl, by rw [Lib.cell_of_heap h]; rfl, by rw [Lib.cell_of_heap h]; rfl, fun c => Lib.frozen_of_heap h c⟩

set_option maxHeartbeats 1000000 in
theorem last_ps (w : World) (P G n k cap : Nat) (s : ByteArray) (i : Nat) (d : Int) (h : PsB w P s i (.slice (some ⟨G, 0, none⟩) n cap) d false) (hn : n = k + 1) (hk : k ≤ 1000) :
    Calls Tryz.prog 74 #[ptr P] w fun e w' => e = .returned (.pointer (some ⟨G, k * 2, none⟩)) ∧ Below w.heap.size w w' := by
  obtain ⟨_, _, c2, _, _, _⟩ := ps_cells h
  have p1 : IntKind.i64.wrap ((n : Int) - 1) = (k : Int) := by rw [IntWalk.i64_in _ (by omega)]; omega
  have p2 : (k : Int) < (n : Int) := by omega
  have p3 : (0 : Int) ≤ (k : Int) := by omega
  clear hn h
  go_enter Tryz.func74, Tryz.ntmps74
  go_wp2_with fail
  go_quiet (fail)
  go_wp2
  go_ret
  exact ⟨rfl, below_drewN _ _ _⟩

theorem far_cell {ex : Nat → Prop} {w w6 : World} {a : Addr} (hk : Kb ex w w6) (hl : a.block < w.heap.size) (hne : ¬ ex a.block) : w6.cell? a = w.cell? a ∧ w6.frozen? a = w.frozen? a := ⟨World.cell?_of_block (hk.block _ hl hne), World.frozen?_of_block (hk.block _ hl hne)⟩
theorem ndq_kb {w w' : World} {ρ : Nat → Nat} {ex : Nat → Prop} {r : Rx} {b : Nat} (h : NdQ w (fun i => ρ i = 0) r b) (hk : Kb ex w w') (hx : ∀ i, i < w.heap.size → ex i → ρ i ≠ 0) : NdQ w' (fun i => ρ i = 0) r b := by
  have h4 := h.mono (Q' := fun i => ρ i = 0 ∧ i < w.heap.size) (fun i hi hq => ⟨hq, hi⟩)
  have h5 := h4.keep (w' := w') (KeepQ.kb hk (fun i hi he => hx i hi.2 he hi.1))
  exact h5.mono (fun i _ hq => hq.1)
/-- The parser's state, and a node that isn't in it yet. -/
def PIn (w0 w : World) (P G cap : Nat) (s : ByteArray) (i : Nat) (d : Int) (gs : List Grp) (r : Rx) (nb : Nat) : Prop :=
  ∃ ρ vs, PIx 0 w0 w ρ P G cap s i d gs.length vs (flatG gs) ∧ (∀ i, w.heap.size ≤ i → ρ i = 0) ∧ NdQ w (fun i => ρ i = 0) r nb
theorem ndq_fresh {w w' : World} {ρ : Nat → Nat} {r : Rx} {nb : Nat} (hf : ∀ i, w.heap.size ≤ i → ρ i = 0) (h : NdQ w' (fun i => ρ i = 0 ∨ w.heap.size ≤ i) r nb) : NdQ w' (fun i => ρ i = 0) r nb := h.mono (fun i _ hi => hi.elim id (hf i))
/-- A node is put behind a row. -/
theorem PIx.app {w0 w w6 : World} {ρ : Nat → Nat} {P G cap : Nat} {s : ByteArray} {i : Nat} {d : Int} {n : Nat} {vs : List Value} {R : List (List Rx)} (H : PIx 0 w0 w ρ P G cap s i d n vs R) (hf : ∀ i, w.heap.size ≤ i → ρ i = 0)
    {c : Nat} {b v' : Value} {rs : List Rx} {bs : List Nat} {gg : Nat} {r : Rx} {nb : Nat} (hb : vs[c]? = some b) (hbs : NdsQ w (fun i => ρ i = 0) rs bs) (hbr : ∀ g, b.ownBlock = some g → ρ g = 3 + c) (_hbo : w.ownsRow 0 68 1 b rs.length (bs.map ptr)) (hnb : NdQ w (fun i => ρ i = 0) r nb)
    (hk : Kb (fun i => some i = b.ownBlock) w w6) (ho : w6.ownsRow 0 68 1 v' (rs.length + 1) (bs.map ptr ++ [ptr nb])) (hv : v'.ownBlock = some gg) (hg : b.ownBlock = some gg ∨ w.heap.size ≤ gg) :
    ∃ ρ', PIx 0 w0 (w6.setCell ⟨G, c, none⟩ v') ρ' P G cap s i d n (vs.set c v') (R.set c (rs ++ [r])) ∧ ∀ i, (w6.setCell ⟨G, c, none⟩ v').heap.size ≤ i → ρ' i = 0 := by
  have hc : c < vs.length := (List.getElem?_eq_some_iff.1 hb).1
  obtain ⟨ρ', hρ'⟩ : ∃ ρ' : Nat → Nat, ρ' = fun i => if i = gg then 3 + c else ρ i := ⟨_, rfl⟩
  have hgg : ρ' gg = 3 + c := by rw [hρ']; simp
  have hne : ∀ i, i ≠ gg → ρ' i = ρ i := fun i hi => by rw [hρ']; simp [hi]
  have heq : ∀ i, i < w.heap.size → ρ' i = ρ i := fun i hi => by
    by_cases hi' : i = gg
    · subst hi'
      rcases hg with hg | hg
      · rw [hgg, hbr _ hg]
      · omega
    · exact hne i hi'
  clear hρ'
  have hlow : ∀ i, i < w0.heap.size → ρ' i = 1 ∧ i ≠ P := fun i hi => by
    rw [heq i (Nat.lt_of_lt_of_le hi H.bel.size)]
    exact H.low i hi
  have hx : ∀ i, i < w.heap.size → some i = b.ownBlock → ρ' i = 3 + c := fun i hi he => by rw [heq i hi]; exact hbr i he.symm
  have H2 := ((H.rho heq hlow).hole (h := 3 + c)).kb hk hx (by omega)
  have hnd : ∀ {r : Rx} {b : Nat}, NdQ w (fun i => ρ i = 0) r b → NdQ w6 (fun i => ρ' i = 0) r b := fun h => ndq_kb (h.mono (fun i hi hq => (heq i hi).trans hq)) hk (fun i hi he => by rw [hx i hi he]; omega)
  have hr : RwAt w6 ρ' (3 + c) v' (rs ++ [r]) := by
    refine ⟨bs ++ [nb], by rw [List.length_append, List.map_append]; exact ho, ⟨by simp [hbs.1], fun j x y h1 h2 => ?_⟩, fun g hg' => by rw [hv] at hg'; injection hg' with e; rw [← e]; exact hgg⟩
    have hl := hbs.1
    rcases Nat.lt_or_ge j bs.length with hj | hj
    · rw [List.getElem?_append_left (by omega)] at h1
      rw [List.getElem?_append_left hj] at h2
      exact hnd (hbs.2 j x y h1 h2)
    · have hj2 : j = bs.length := by
        have := (List.getElem?_eq_some_iff.1 h2).1
        simp at this; omega
      subst hj2
      rw [← hl] at h1
      have e1 : r = x := by simpa using h1
      have e2 : nb = y := by simpa using h2
      subst e1; subst e2
      exact hnd hnb
  refine ⟨ρ', H2.set hc hr, fun i hi => ?_⟩
  have hz : (w6.setCell ⟨G, c, none⟩ v').heap.size = w6.heap.size := by simp [World.setCell]
  rw [hz] at hi
  have hlt := own_lt ho hv
  have := hk.size
  rw [hne i (by omega)]
  exact hf i (by omega)

/-- A group's slices. -/
theorem PIx.last {w0 w : World} {ρ : Nat → Nat} {P G cap : Nat} {s : ByteArray} {i : Nat} {d : Int} {lo : List Grp} {g : Grp} {vs : List Value} (H : PIx 0 w0 w ρ P G cap s i d (lo ++ [g]).length vs (flatG (lo ++ [g]))) :
    ∃ a b : Value, vs[lo.length * 2]? = some a ∧ vs[lo.length * 2 + 1]? = some b ∧ RwAt w ρ (3 + lo.length * 2) a g.ways ∧ RwAt w ρ (3 + (lo.length * 2 + 1)) b g.row := by
  have hl := H.lenv
  rw [List.length_append, List.length_singleton] at hl
  obtain ⟨a, ha⟩ : ∃ a, vs[lo.length * 2]? = some a := ⟨_, List.getElem?_eq_getElem (by omega)⟩
  obtain ⟨b, hb⟩ : ∃ b, vs[lo.length * 2 + 1]? = some b := ⟨_, List.getElem?_eq_getElem (by omega)⟩
  exact ⟨a, b, ha, hb, H.rows _ _ _ ha (flatG_ways lo g) (by omega), H.rows _ _ _ hb (flatG_row lo g) (by omega)⟩

set_option maxRecDepth 100000 in
set_option maxHeartbeats 2000000 in
theorem put_any (w0 w : World) (P G cap : Nat) (s : ByteArray) (i : Nat) (d : Int) (lo : List Grp) (g : Grp) (r : Rx) (nb : Nat) (H : PIn w0 w P G cap s i d (lo ++ [g]) r nb) (hlo : lo.length ≤ 100) (hrow : g.row.length ≤ 1000) :
    Calls Tryz.prog 130 #[ptr P, ptr nb] w fun e w' => e = .returned (.tuple #[]) ∧ PI w0 w' P G cap s i d (lo ++ [g.put r]) := by
  obtain ⟨ρ, vs, H1, hf, hnb⟩ := H
  obtain ⟨a, b, ha, hb, ra, rb⟩ := H1.last
  obtain ⟨bs, hbo, hbs, hbr⟩ := rb
  obtain ⟨A, c, hbv, hcap, hcap2⟩ := own_form hbo
  subst hbv
  obtain ⟨_, _, _, _, c4, _⟩ := ps_cells H1.ps
  have hlen : (lo ++ [g]).length = lo.length + 1 := by simp
  have HL := Lib.hid (fun (w' : World) (hp : PsB w' P s i (.slice (some ⟨G, 0, none⟩) (lo ++ [g]).length cap) d false) => last_ps w' P G (lo ++ [g]).length lo.length cap s i d hp hlen (by omega))
  obtain ⟨k2, hk2⟩ : ∃ k2, k2 = lo.length * 2 := ⟨_, rfl⟩
  rw [← hk2] at HL hb hbr
  have HK2 := Lib.hid hk2
  obtain ⟨i0, hi0, hz0, hz1, hz2⟩ := info_parts Tryz.info68
  have HI := Lib.hid hi0; have HZ0 := Lib.hid hz0; have HZ1 := Lib.hid hz1; have HZ2 := Lib.hid hz2
  clear hi0 hz0 hz1 hz2
  obtain ⟨m, hm⟩ : ∃ m, m = g.row.length := ⟨_, rfl⟩
  rw [← hm] at hbo hcap hrow hb hbr
  have HM := Lib.hid hm
  have HX := Lib.hid H1; have HF := Lib.hid hf; have HN := Lib.hid hnb; have HB := Lib.hid hb; have HBO := Lib.hid hbo; have HBS := Lib.hid hbs; have HBR := Lib.hid hbr
  clear H1 hf hnb ha hb ra hbo hbs hbr hlen hk2 hm
  go_enter Tryz.func130, Tryz.ntmps130
  go_wp2_with fail
  refine (HL.out w HX.out.ps).mono ?_
  rintro e w1 ⟨rfl, hb1⟩
  have HX1 := Lib.hid (HX.out.below hb1)
  have HB1 := Lib.hid hb1
  clear hb1
  go_wp2_with fail
  refine (HL.out w1 HX1.out.ps).mono ?_
  rintro e w2 ⟨rfl, hb2⟩
  have HB2 := Lib.hid (below_tr HB1.out hb2 HB1.out.size)
  have HX2 := Lib.hid (HX1.out.below hb2)
  clear hb2
  have q1 := HX2.out.cell HB.out
  have hk2' := Kb.of_below (fun _ => False) HB2.out
  have HO2 := Lib.hid (own_kb HBO.out hk2' (fun _ _ h => h))
  have HN2 := Lib.hid (ndq_kb HN.out hk2' (fun _ _ h => h.elim))
  have HBS2 := Lib.hid (show NdsQ w2 (fun i => ρ i = 0) g.row bs from ⟨HBS.out.1, fun j x y h1 h2 => ndq_kb (HBS.out.2 j x y h1 h2) hk2' (fun _ _ h => h.elim)⟩)
  clear hk2'
  go_wp2_with (at_builtin; refine wpList_append_lies _ rfl _ _ 24 rfl 0 68 i0 _ 1 8 Tryz.underlying24 HI.out HZ0.out HZ1.out HZ2.out rfl (by omega) (.slice A m c) m _ rfl (HO2.out.alloc _) ⟨w2.heap.size, 0, none⟩ 1 1 [ptr nb] rfl rfl (World.news_of_block (cs := #[ptr nb]) (t := 68) (fr := (0, 0)) (heap_alloc_new w2 _)) (by simp [Value.oneCell']) (by omega) (by unfold maxLen; omega) (by omega) (by simp) (w2.heap.size + 1) (by simp) ?_)
  intro gg cap6 w6 hown6 hgrow6 hat6 hlt6
  have hg6 := grown_kb hgrow6
  have hne : ¬ some G = (Value.slice A m c).ownBlock := fun he => by
    have h1 := HBR.out G he.symm
    rw [HX.out.rG] at h1; omega
  obtain ⟨hfc, hff⟩ := far_cell (a := ⟨G, k2 + 1, none⟩) hg6 HX2.out.ltG hne
  rw [HX2.out.cell HB.out] at hfc
  rw [HX2.out.frozen] at hff
  obtain ⟨ρ', hp, hf'⟩ := HX2.out.app (fun i hi => HF.out i (Nat.le_trans HB2.out.size hi)) HB.out HBS2.out HBR.out (by rw [← HM.out]; exact HO2.out) HN2.out hg6 (by rw [← HM.out]; exact hown6) rfl (hat6.imp id (fun h => by omega))
  have HFin := Lib.hid (show PI w0 (w6.setCell ⟨G, k2 + 1, none⟩ (.slice (some ⟨gg, 0, none⟩) (m + 1) cap6)) P G cap s i d (lo ++ [g.put r]) from ⟨ρ', _, by
    have e1 : (flatG (lo ++ [g])).set (k2 + 1) (g.row ++ [r]) = flatG (lo ++ [g.put r]) := by rw [HK2.out]; exact flatG_set_row lo g _
    have e2 : (lo ++ [g]).length = (lo ++ [g.put r]).length := by simp
    rw [← e1, ← e2]; exact hp, hf'⟩)
  clear hown6 hgrow6 hat6 hlt6 hg6 hp hf'
  go_wp2
  go_end0
  exact ⟨rfl, HFin.out⟩
end Go.Proofs.YtejdfpieblkapaaGreatDoor

/- Carried from another seat. -/
namespace Go.Proofs.YtejdfpieblkapaaGreatDoor
open Go.RowKit Go.Shelf


theorem own_row {w : World} {n c : Nat} {A : Option Addr} {bs : List Nat} (h : w.ownsRow 0 68 1 (.slice A n c) n (bs.map ptr)) : RowAt w A bs := by
  have hl := h.1
  rw [List.length_map] at hl
  rcases h.2 with ⟨hv, hn⟩ | ⟨g, cap, cur, hv, _, hh, _, _, _, h4⟩
  · exact .inl (List.length_eq_zero_iff.1 (by omega))
  · injection hv with e1 e2 e3
    refine .inr ⟨g, cur, _, e1, hh, fun i b hb => ?_⟩
    have : (bs.map ptr)[i]? = some (ptr b) := by rw [List.getElem?_map, hb]; rfl
    rw [← h4, List.getElem?_take_of_lt (by have := (List.getElem?_eq_some_iff.1 hb).1; omega)] at this
    simpa using this
/-- A group's bounds. -/
structure Grp.Ok (g : Grp) : Prop where
  ways : g.ways.length ≤ 900
  row : g.row.length ≤ 900
  szw : ∀ r ∈ g.ways, r.size ≤ 50000
  szr : szs g.row ≤ 20000
theorem Grp.Ok.szr' {g : Grp} (h : g.Ok) : ∀ r ∈ g.row, r.size ≤ 100000 := fun r hr => by have := szs_mem hr; have := h.szr; omega

set_option maxRecDepth 100000 in
set_option maxHeartbeats 4000000 in
theorem nextWay_any (w0 w : World) (P G cap : Nat) (s : ByteArray) (i : Nat) (d : Int) (lo : List Grp) (g : Grp) (H : PI w0 w P G cap s i d (lo ++ [g])) (hok : g.Ok) :
    Calls Tryz.prog 115 #[.pointer (some ⟨G, lo.length * 2, none⟩)] w fun e w' => e = .returned (.tuple #[]) ∧ PI w0 w' P G cap s i d (lo ++ [g.nextWay]) := by
  obtain ⟨ρ, vs, H1, hf⟩ := H
  obtain ⟨a, b, ha, hb, ra, rb⟩ := H1.last
  obtain ⟨asl, hao, has, har⟩ := ra
  obtain ⟨bs, hbo, hbs, hbr⟩ := rb
  obtain ⟨A, ca, hav, hcapa, hcapa2⟩ := own_form hao
  obtain ⟨B, cb, hbv, hcapb, hcapb2⟩ := own_form hbo
  subst hav; subst hbv
  have h1 := hok.ways; have h2 := hok.row
  have hbd : Below w.heap.size w w.drew := (Below.refl _ w).drew
  have hkd := Kb.of_below (fun _ => False) hbd
  have hbl : g.row.length = bs.length := hbs.1
  have HC := Lib.hid (cat_q (fun i => ρ i = 0) cb g.row.length B bs g.row w.drew (own_row (own_kb hbo hkd (fun _ _ h => h))) ⟨hbs.1, fun j x y h1 h2 => ndq_kb (hbs.2 j x y h1 h2) hkd (fun _ _ h => h.elim)⟩ hbl.symm hcapb hcapb2 (by omega) hok.szr')
  obtain ⟨k2, hk2⟩ : ∃ k2, k2 = lo.length * 2 := ⟨_, rfl⟩
  rw [← hk2] at ha hb har ⊢
  have q1 := H1.cell ha
  have q2 := H1.cell hb
  obtain ⟨m, hm⟩ : ∃ m, m = g.ways.length := ⟨_, rfl⟩
  rw [← hm] at hao hcapa h1 q1 ha har
  obtain ⟨n, hn⟩ : ∃ n, n = g.row.length := ⟨_, rfl⟩
  rw [← hn] at HC q2 hcapb hb
  have HK2 := Lib.hid hk2; have HM := Lib.hid hm
  obtain ⟨i0, hi0, hz0, hz1, hz2⟩ := info_parts Tryz.info68
  have HI := Lib.hid hi0; have HZ0 := Lib.hid hz0; have HZ1 := Lib.hid hz1; have HZ2 := Lib.hid hz2
  clear hi0 hz0 hz1 hz2
  have HX := Lib.hid H1; have HF := Lib.hid hf; have HA := Lib.hid ha; have HBB := Lib.hid hb; have HAO := Lib.hid hao; have HAS := Lib.hid has; have HAR := Lib.hid har
  have HLn := Lib.hid H1.lenv
  clear H1 hf ha hb hbo hbs hbr hao has har hk2 hm hn hbl hbd hkd h2 hok
  go_enter Tryz.func115, Tryz.ntmps115
  go_wp2_with fail
  go_region_law (first | (go_simp; go_at_call 139; (with_reducible refine HC.out.mono ?_); rintro e w2 ⟨nb, rfl, y1, y2⟩; have hX2 := HX.out.below (below_tr ((Below.refl _ w).drew) y2 (Nat.le_refl _)); have hk2' := Kb.of_below (fun _ => False) (below_tr ((Below.refl _ w).drew) y2 (Nat.le_refl _)); have ho2 : w2.ownsRow 0 68 1 (.slice A m ca) m (asl.map ptr) := own_kb HAO.out hk2' (fun _ _ h => h); have e2 : w2.cell? ⟨G, k2, none⟩ = some (.slice A m ca) := hX2.cell HA.out; have e2a : ∀ o : Obj, (w2.alloc o).cell? ⟨G, k2, none⟩ = some (.slice A m ca) := fun o => (hX2.below ((Below.refl _ w2).alloc (Nat.le_refl _) o)).cell HA.out) | (refine step_append_lies _ (by rfl) _ _ _ (by rfl) 0 68 i0 _ 1 8 Tryz.underlying24 HI.out HZ0.out HZ1.out HZ2.out rfl (by omega) (.slice A m ca) m (asl.map ptr) (by rfl) (ho2.alloc _) ⟨w2.heap.size, 0, none⟩ 1 1 [ptr nb] (by rfl) (by rfl) (World.news_of_block (cs := #[ptr nb]) (t := 68) (fr := (0, 0)) (heap_alloc_new w2 _)) (by simp [Value.oneCell']) (by omega) (by unfold maxLen; omega) (by omega) (by simp) (w2.heap.size + 1) (by simp) ?_; intro gg cap6 w6 hown6 hgrow6 hat6 hlt6; have hg6 := grown_kb hgrow6; have hne : ¬ some G = (Value.slice A m ca).ownBlock := (fun he => by have h1 := HAR.out G he.symm; rw [HX.out.rG] at h1; omega); have ef6 : w6.frozen? ⟨G, k2, none⟩ = false := (far_cell (a := ⟨G, k2, none⟩) hg6 hX2.ltG hne).2.trans (hX2.frozen k2); have ec6 : w6.cell? ⟨G, k2, none⟩ = some (.slice A m ca) := (far_cell (a := ⟨G, k2, none⟩) hg6 hX2.ltG hne).1.trans e2))
  all_goals
    obtain ⟨ρ', hp, hf'⟩ := hX2.app (r := catR g.row) (fun i hi => HF.out i (Nat.le_trans hk2'.size hi)) HA.out ⟨HAS.out.1, fun j x y h1 h2 => ndq_kb (HAS.out.2 j x y h1 h2) hk2' (fun _ _ h => h.elim)⟩ HAR.out (by rw [← HM.out]; exact ho2) (ndq_fresh (w := w) HF.out y1) hg6 (by rw [← HM.out]; exact hown6) rfl (hat6.imp id (fun h => by omega))
    have hln := HLn.out
    rw [List.length_append, List.length_singleton] at hln
    have hp2 := (hp.hole (h := 3 + (k2 + 1))).set (c := k2 + 1) (v := .slice none 0 0) (rs := []) (by rw [List.length_set, HK2.out]; omega) (RwAt.nil _ _ _)
    have ef7 := hp.frozen (k2 + 1)
    have ec7 := hp.cell (c := k2 + 1) (v := .slice B n cb) (by rw [List.getElem?_set_ne (by omega)]; exact HBB.out)
    have HFin := Lib.hid (show PI w0 ((w6.setCell ⟨G, k2, none⟩ (.slice (some ⟨gg, 0, none⟩) (m + 1) cap6)).setCell ⟨G, k2 + 1, none⟩ (.slice none 0 0)) P G cap s i d (lo ++ [g.nextWay]) from ⟨ρ', _, by
      have e1 : ((flatG (lo ++ [g])).set k2 (g.ways ++ [catR g.row])).set (k2 + 1) [] = flatG (lo ++ [g.nextWay]) := by
        rw [HK2.out, flatG_set_ways, flatG_set_row]; rfl
      have e2 : (lo ++ [g]).length = (lo ++ [g.nextWay]).length := by simp
      rw [← e1, ← e2]; exact hp2, fun i hi => hf' i (by simpa [World.setCell] using hi)⟩)
    clear hown6 hgrow6 hat6 hlt6 hg6 hp hf' hX2 hk2' ho2 e2 e2a ef6 ec6 y1 y2 hp2 hln
    try go_wp2
    first | go_ret | go_end0
    exact ⟨rfl, HFin.out⟩
end Go.Proofs.YtejdfpieblkapaaGreatDoor
