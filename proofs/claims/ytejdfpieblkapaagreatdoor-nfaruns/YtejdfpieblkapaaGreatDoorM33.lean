/- Carried from another seat. -/
import Derived.Test.YtejdfpieblkapaaGreatDoorM30
namespace Go.Proofs.YtejdfpieblkapaaGreatDoor
open Go.RowKit Go.Shelf


/-- A row of nodes that is the parser's own: its block has a role, the nodes' blocks have none. -/
def RwAt (w : World) (ρ : Nat → Nat) (role : Nat) (v : Value) (rs : List Rx) : Prop :=
  ∃ bs : List Nat, w.ownsRow 0 68 1 v rs.length (bs.map ptr) ∧ NdsQ w (fun i => ρ i = 0) rs bs ∧ ∀ g, v.ownBlock = some g → ρ g = role
theorem own_lt {w : World} {base e size n : Nat} {v : Value} {xs : List Value} (h : w.ownsRow base e size v n xs) {g : Nat} (hg : v.ownBlock = some g) : g < w.heap.size := by
  obtain ⟨_, cs, hc⟩ := own_ty h hg
  exact lt_of_heap hc
theorem RwAt.keep {w w' : World} {ρ : Nat → Nat} {role : Nat} {v : Value} {rs : List Rx} {ex : Nat → Prop} (h : RwAt w ρ role v rs) (hk : Kb ex w w') (hx : ∀ i, i < w.heap.size → ex i → ρ i ≠ 0 ∧ ρ i ≠ role) : RwAt w' ρ role v rs := by
  obtain ⟨bs, h1, h2, h3⟩ := h
  refine ⟨bs, own_kb h1 hk (fun g hg he => (hx g (own_lt h1 hg) he).2 (h3 g hg)), ⟨h2.1, fun i r b hr hb => ?_⟩, h3⟩
  have h4 := (h2.2 i r b hr hb).mono (Q' := fun i => ρ i = 0 ∧ i < w.heap.size) (fun i hi hq => ⟨hq, hi⟩)
  have h5 := h4.keep (w' := w') (KeepQ.kb hk (fun i hi he => (hx i hi.2 he).1 hi.1))
  exact h5.mono (fun i _ hq => hq.1)
theorem RwAt.rho {w : World} {ρ ρ' : Nat → Nat} {role : Nat} {v : Value} {rs : List Rx} (h : RwAt w ρ role v rs) (hr : ∀ i, i < w.heap.size → ρ' i = ρ i) : RwAt w ρ' role v rs := by
  obtain ⟨bs, h1, h2, h3⟩ := h
  exact ⟨bs, h1, h2.mono (fun i hi hq => (hr i hi).trans hq), fun g hg => (hr g (own_lt h1 hg)).trans (h3 g hg)⟩
theorem RwAt.nil (w : World) (ρ : Nat → Nat) (role : Nat) : RwAt w ρ role (.slice none 0 0) [] := ⟨[], ⟨rfl, .inl ⟨rfl, rfl⟩⟩, ⟨rfl, fun i r b h => by simp at h⟩, fun g hg => by simp [Value.ownBlock] at hg⟩

/-- The parser's state; the row of the role h may be in the making. -/
structure PIx (h : Nat) (w0 w : World) (ρ : Nat → Nat) (P G cap : Nat) (s : ByteArray) (i : Nat) (d : Int) (n : Nat) (vs : List Value) (R : List (List Rx)) : Prop where
  ps : PsB w P s i (.slice (some ⟨G, 0, none⟩) n cap) d false
  own : w.ownsRow 0 168 2 (.slice (some ⟨G, 0, none⟩) n cap) n vs
  len : R.length = vs.length
  rows : ∀ c v rs, vs[c]? = some v → R[c]? = some rs → 3 + c ≠ h → RwAt w ρ (3 + c) v rs
  rP : ρ P = 1
  rG : ρ G = 2
  low : ∀ i, i < w0.heap.size → ρ i = 1 ∧ i ≠ P
  bel : Below w0.heap.size w0 w

section
variable {h : Nat} {w0 w w' : World} {ρ ρ' : Nat → Nat} {P G cap : Nat} {s : ByteArray} {i : Nat} {d : Int} {n : Nat} {vs : List Value} {R : List (List Rx)}
theorem PIx.lo (H : PIx h w0 w ρ P G cap s i d n vs R) {j : Nat} (hj : ρ j ≠ 1 ∨ j = P) : w0.heap.size ≤ j := by
  rcases Nat.lt_or_ge j w0.heap.size with h1 | h1
  · obtain ⟨a, b⟩ := H.low j h1
    rcases hj with hj | hj
    · exact absurd a hj
    · exact absurd hj b
  · exact h1
theorem PIx.hole (H : PIx 0 w0 w ρ P G cap s i d n vs R) : PIx h w0 w ρ P G cap s i d n vs R := ⟨H.ps, H.own, H.len, fun c v rs h1 h2 _ => H.rows c v rs h1 h2 (by omega), H.rP, H.rG, H.low, H.bel⟩
theorem PIx.lenv (H : PIx h w0 w ρ P G cap s i d n vs R) : vs.length = n * 2 := H.own.1
theorem PIx.blk (H : PIx h w0 w ρ P G cap s i d n vs R) : ∃ cur : Array Value, w.heap[G]? = some (.cells cur 168 (0, 0)) ∧ cur.toList.take (n * 2) = vs ∧ n ≤ cap ∧ cap ≤ maxLen ∧ cur.size = cap * 2 := by
  rcases H.own.2 with ⟨hv, _⟩ | ⟨g, c, cur, hv, _, hh, h1, h2, h3, h4⟩
  · simp at hv
  · have e1 : G = g := by injection hv with e; injection e with e; injection e
    have e2 : cap = c := by injection hv
    subst e1; subst e2
    exact ⟨cur, hh, h4, h1, h2, h3⟩
theorem PIx.cell (H : PIx h w0 w ρ P G cap s i d n vs R) {c : Nat} {v : Value} (hc : vs[c]? = some v) : w.cell? ⟨G, c, none⟩ = some v := by
  obtain ⟨cur, h1, h2, _⟩ := H.blk
  rw [Lib.cell_of_heap h1]
  rw [← h2, List.getElem?_take] at hc
  split at hc
  · simpa using hc
  · cases hc
theorem PIx.frozen (H : PIx h w0 w ρ P G cap s i d n vs R) (c : Nat) : w.frozen? ⟨G, c, none⟩ = false := by
  obtain ⟨cur, h1, _⟩ := H.blk
  exact Lib.frozen_of_heap h1 c
theorem PIx.ltG (H : PIx h w0 w ρ P G cap s i d n vs R) : G < w.heap.size := by obtain ⟨cur, h1, _⟩ := H.blk; exact lt_of_heap h1
theorem PIx.ltP (H : PIx h w0 w ρ P G cap s i d n vs R) : P < w.heap.size := lt_of_heap H.ps
theorem PIx.neq (H : PIx h w0 w ρ P G cap s i d n vs R) : P ≠ G := fun e => by have h1 := H.rP; rw [e, H.rG] at h1; omega
theorem PIx.rho (H : PIx h w0 w ρ P G cap s i d n vs R) (hr : ∀ i, i < w.heap.size → ρ' i = ρ i) (hl : ∀ i, i < w0.heap.size → ρ' i = 1 ∧ i ≠ P) : PIx h w0 w ρ' P G cap s i d n vs R :=
  ⟨H.ps, H.own, H.len, fun c v rs h1 h2 h3 => (H.rows c v rs h1 h2 h3).rho hr, (hr _ H.ltP).trans H.rP, (hr _ H.ltG).trans H.rG, hl, H.bel⟩
/-- What changes is the row in the making alone. -/
theorem PIx.kb {ex : Nat → Prop} (H : PIx h w0 w ρ P G cap s i d n vs R) (hk : Kb ex w w') (hx : ∀ i, i < w.heap.size → ex i → ρ i = h) (h3 : 3 ≤ h) : PIx h w0 w' ρ P G cap s i d n vs R := by
  have hP : ¬ ex P := fun he => by have h1 := hx P H.ltP he; rw [H.rP] at h1; omega
  have hG : ¬ ex G := fun he => by have h1 := hx G H.ltG he; rw [H.rG] at h1; omega
  refine ⟨(hk.block P H.ltP hP).trans H.ps, own_kb H.own hk (fun g hg => ?_), H.len, fun c v rs h1 h2 h3' => (H.rows c v rs h1 h2 h3').keep hk (fun i hi he => ⟨by rw [hx i hi he]; omega, by rw [hx i hi he]; omega⟩), H.rP, H.rG, H.low, H.bel.trans (hk.below H.bel.size ?_)⟩
  · have : G = g := by simpa [Value.ownBlock] using hg
    subst this; exact hG
  · intro i he
    rcases Nat.lt_or_ge i w.heap.size with hi | hi
    · exact H.lo (.inl (by rw [hx i hi he]; omega))
    · exact Nat.le_trans H.bel.size hi
theorem PIx.below (H : PIx h w0 w ρ P G cap s i d n vs R) (hb : Below w.heap.size w w') : PIx h w0 w' ρ P G cap s i d n vs R := by
  have hk := Kb.of_below (fun _ => False) hb
  refine ⟨H.ps.below hb, own_kb H.own hk (fun _ _ h => h), H.len, fun c v rs h1 h2 h3' => (H.rows c v rs h1 h2 h3').keep hk (fun i hi he => he.elim), H.rP, H.rG, H.low, below_tr H.bel hb H.bel.size⟩
/-- A row is done. -/
theorem PIx.fill {c : Nat} {v : Value} {rs : List Rx} (H : PIx (3 + c) w0 w ρ P G cap s i d n vs R) (hv : vs[c]? = some v) (hr : RwAt w ρ (3 + c) v rs) : PIx 0 w0 w ρ P G cap s i d n vs (R.set c rs) :=
  ⟨H.ps, H.own, by rw [List.length_set]; exact H.len, fun c' v' rs' h1 h2 _ => by
    by_cases hc : c' = c
    · subst hc
      rw [hv] at h1
      injection h1 with h1
      rw [List.getElem?_set_self' ] at h2
      obtain ⟨_, _, rfl⟩ := Option.map_eq_some_iff.1 h2
      rw [← h1]; exact hr
    · rw [List.getElem?_set_ne (Ne.symm hc)] at h2
      exact H.rows c' v' rs' h1 h2 (by omega), H.rP, H.rG, H.low, H.bel⟩
/-- A row is done, and put into its group. -/
theorem PIx.set {c : Nat} {v : Value} {rs : List Rx} (H : PIx (3 + c) w0 w ρ P G cap s i d n vs R) (hc : c < vs.length) (hr : RwAt w ρ (3 + c) v rs) : PIx 0 w0 (w.setCell ⟨G, c, none⟩ v) ρ P G cap s i d n (vs.set c v) (R.set c rs) := by
  obtain ⟨cur, h1, h2, h3, h4, h5⟩ := H.blk
  have hk := Kb.setCell w ⟨G, c, none⟩ v
  have hG := H.rG
  have hx : ∀ role, 3 ≤ role → ∀ i, i < w.heap.size → i = G → ρ i ≠ 0 ∧ ρ i ≠ role := fun role h3 i _ he => by rw [he, hG]; omega
  have hl := H.lenv
  refine ⟨(hk.block P H.ltP H.neq).trans H.ps, ⟨by rw [List.length_set]; exact hl, .inr ⟨G, cap, cur.set! c v, rfl, Nat.zero_le _, set_heap w G c cur v 168 (0, 0) h1, h3, h4, by simp [h5], ?_⟩⟩, by rw [List.length_set, List.length_set]; exact H.len, fun c' v' rs' h1 h2 _ => ?_, H.rP, H.rG, H.low, H.bel.trans (hk.below H.bel.size (fun i he => ?_))⟩
  · rw [← h2]
    simp only [Array.set!_eq_setIfInBounds, Array.toList_setIfInBounds]
    rw [List.take_set]
  · by_cases hcc : c' = c
    · subst hcc
      rw [List.getElem?_set_self' ] at h1 h2
      obtain ⟨_, _, rfl⟩ := Option.map_eq_some_iff.1 h2
      obtain ⟨_, _, rfl⟩ := Option.map_eq_some_iff.1 h1
      exact hr.keep hk (hx _ (by omega))
    · rw [List.getElem?_set_ne (Ne.symm hcc)] at h1 h2
      exact (H.rows c' v' rs' h1 h2 (by omega)).keep hk (hx _ (by omega))
  · have he' : i = G := he
    rw [he']; exact H.lo (.inl (by rw [hG]; omega))
/-- The reader goes on. -/
theorem PIx.psk {w' : World} {i' : Nat} {d' : Int} (H : PIx h w0 w ρ P G cap s i d n vs R) (hk : Kb (fun j => j = P) w w') (hp : PsB w' P s i' (.slice (some ⟨G, 0, none⟩) n cap) d' false) : PIx h w0 w' ρ P G cap s i' d' n vs R := by
  have hP := H.rP
  refine ⟨hp, own_kb H.own hk (fun g hg he => ?_), H.len, fun c v rs h1 h2 h3' => (H.rows c v rs h1 h2 h3').keep hk (fun i hi he => by rw [show i = P from he, hP]; omega), H.rP, H.rG, H.low, H.bel.trans (hk.below H.bel.size (fun i he => by rw [show i = P from he]; exact H.lo (.inr rfl)))⟩
  have : G = g := by simpa [Value.ownBlock] using hg
  exact H.neq (by rw [this]; exact he.symm)
end
def flatG (gs : List Grp) : List (List Rx) := gs.flatMap fun g => [g.ways, g.row]
theorem flatG_append (a b : List Grp) : flatG (a ++ b) = flatG a ++ flatG b := List.flatMap_append
theorem flatG_one (g : Grp) : flatG [g] = [g.ways, g.row] := rfl
theorem flatG_len (a : List Grp) : (flatG a).length = a.length * 2 := by
  induction a with
  | nil => rfl
  | cons x a ih => show (x.ways :: x.row :: flatG a).length = _; simp [ih]; omega
theorem flatG_ways (lo : List Grp) (g : Grp) : (flatG (lo ++ [g]))[lo.length * 2]? = some g.ways := by
  rw [flatG_append, List.getElem?_append_right (by rw [flatG_len]; exact Nat.le_refl _), flatG_len, Nat.sub_self]; rfl
theorem flatG_row (lo : List Grp) (g : Grp) : (flatG (lo ++ [g]))[lo.length * 2 + 1]? = some g.row := by
  rw [flatG_append, List.getElem?_append_right (by rw [flatG_len]; omega), flatG_len, Nat.add_sub_cancel_left]; rfl
theorem flatG_set_ways (lo : List Grp) (g : Grp) (x : List Rx) : (flatG (lo ++ [g])).set (lo.length * 2) x = flatG (lo ++ [⟨x, g.row⟩]) := by
  rw [flatG_append, flatG_append, List.set_append_right _ _ (by rw [flatG_len]; exact Nat.le_refl _), flatG_len, Nat.sub_self]; rfl
theorem flatG_set_row (lo : List Grp) (g : Grp) (x : List Rx) : (flatG (lo ++ [g])).set (lo.length * 2 + 1) x = flatG (lo ++ [⟨g.ways, x⟩]) := by
  rw [flatG_append, flatG_append, List.set_append_right _ _ (by rw [flatG_len]; omega), flatG_len, Nat.add_sub_cancel_left]; rfl

/-- The parser's state, as it is between calls. -/
def PI (w0 w : World) (P G cap : Nat) (s : ByteArray) (i : Nat) (d : Int) (gs : List Grp) : Prop :=
  ∃ ρ vs, PIx 0 w0 w ρ P G cap s i d gs.length vs (flatG gs) ∧ ∀ i, w.heap.size ≤ i → ρ i = 0
theorem PI.below {w0 w w' : World} {P G cap : Nat} {s : ByteArray} {i : Nat} {d : Int} {gs : List Grp} (H : PI w0 w P G cap s i d gs) (hb : Below w.heap.size w w') : PI w0 w' P G cap s i d gs := by
  obtain ⟨ρ, vs, h1, h2⟩ := H
  exact ⟨ρ, vs, h1.below hb, fun i hi => h2 i (Nat.le_trans hb.size hi)⟩
theorem PI.psk {w0 w w' : World} {P G cap : Nat} {s : ByteArray} {i i' : Nat} {d d' : Int} {gs : List Grp} (H : PI w0 w P G cap s i d gs) (hk : Kb (fun j => j = P) w w') (hp : PsB w' P s i' (.slice (some ⟨G, 0, none⟩) gs.length cap) d' false) : PI w0 w' P G cap s i' d' gs := by
  obtain ⟨ρ, vs, h1, h2⟩ := H
  exact ⟨ρ, vs, h1.psk hk hp, fun i hi => h2 i (Nat.le_trans hk.size hi)⟩
theorem PI.ps {w0 w : World} {P G cap : Nat} {s : ByteArray} {i : Nat} {d : Int} {gs : List Grp} (H : PI w0 w P G cap s i d gs) : PsB w P s i (.slice (some ⟨G, 0, none⟩) gs.length cap) d false := by
  obtain ⟨ρ, vs, h1, h2⟩ := H
  exact h1.ps
theorem PI.bel {w0 w : World} {P G cap : Nat} {s : ByteArray} {i : Nat} {d : Int} {gs : List Grp} (H : PI w0 w P G cap s i d gs) : Below w0.heap.size w0 w := by
  obtain ⟨ρ, vs, h1, h2⟩ := H
  exact h1.bel
theorem PI.cap {w0 w : World} {P G cap : Nat} {s : ByteArray} {i : Nat} {d : Int} {gs : List Grp} (H : PI w0 w P G cap s i d gs) : gs.length ≤ cap ∧ cap ≤ 9223372036854775807 := by
  obtain ⟨ρ, vs, h1, h2⟩ := H
  obtain ⟨cur, _, _, h3, h4, _⟩ := h1.blk
  unfold maxLen at h4
  exact ⟨h3, by omega⟩
end Go.Proofs.YtejdfpieblkapaaGreatDoor

/- Carried from another seat. -/
namespace Go.Proofs.YtejdfpieblkapaaGreatDoor
open Go.RowKit Go.Shelf


theorem ps_cells {w : World} {P : Nat} {s : ByteArray} {i : Nat} {ov : Value} {d : Int} {l : Bool} (h : PsB w P s i ov d l) : w.cell? ⟨P, 0, none⟩ = some (.string s) ∧ w.cell? ⟨P, 1, none⟩ = some (.int .i64 i) ∧ w.cell? ⟨P, 2, none⟩ = some ov ∧ w.cell? ⟨P, 3, none⟩ = some (.int .i64 d) ∧ w.cell? ⟨P, 4, none⟩ = some (.bool l) ∧ ∀ c, w.frozen? ⟨P, c, none⟩ = false := by
  unfold PsB at h
  exact ⟨by rw [Lib.cell_of_heap h]; rfl, by rw [Lib.cell_of_heap h]; rfl, by rw [Lib.cell_of_heap h]; rfl, by rw [Lib.cell_of_heap h]; rfl, by rw [Lib.cell_of_heap h]; rfl, fun c => Lib.frozen_of_heap h c⟩

set_option maxHeartbeats 1000000 in
theorem last_ps (w : World) (P G n k cap : Nat) (s : ByteArray) (i : Nat) (d : Int) (h : PsB w P s i (.slice (some ⟨G, 0, none⟩) n cap) d false) (hn : n = k + 1) (hk : k ≤ 1000) :
    Calls Tryz.prog 74 #[ptr P] w fun e w' => e = .returned (.pointer (some ⟨G, k * 2, none⟩)) ∧ Below w.heap.size w w' := by
  obtain ⟨_, _, c2, _, _, _⟩ := ps_cells h
  have p1 : IntKind.i64.wrap ((n : Int) - 1) = (k : Int) := by rw [IntWalk.i64_in _ (by omega)]; omega
  have p2 : (k : Int) < (n : Int) := by omega
  have p3 : (0 : Int) ≤ (k : Int) := by omega
  clear hn h
  go_enter Tryz.func74, Tryz.ntmps74
  go_wp2_with fail
  go_quiet (fail)
  go_wp2
  go_ret
  exact ⟨rfl, below_drewN _ _ _⟩

theorem far_cell {ex : Nat → Prop} {w w6 : World} {a : Addr} (hk : Kb ex w w6) (hl : a.block < w.heap.size) (hne : ¬ ex a.block) : w6.cell? a = w.cell? a ∧ w6.frozen? a = w.frozen? a := ⟨World.cell?_of_block (hk.block _ hl hne), World.frozen?_of_block (hk.block _ hl hne)⟩
theorem ndq_kb {w w' : World} {ρ : Nat → Nat} {ex : Nat → Prop} {r : Rx} {b : Nat} (h : NdQ w (fun i => ρ i = 0) r b) (hk : Kb ex w w') (hx : ∀ i, i < w.heap.size → ex i → ρ i ≠ 0) : NdQ w' (fun i => ρ i = 0) r b := by
  have h4 := h.mono (Q' := fun i => ρ i = 0 ∧ i < w.heap.size) (fun i hi hq => ⟨hq, hi⟩)
  have h5 := h4.keep (w' := w') (KeepQ.kb hk (fun i hi he => hx i hi.2 he hi.1))
  exact h5.mono (fun i _ hq => hq.1)
/-- The parser's state, and a node that isn't in it yet. -/
def PIn (w0 w : World) (P G cap : Nat) (s : ByteArray) (i : Nat) (d : Int) (gs : List Grp) (r : Rx) (nb : Nat) : Prop :=
  ∃ ρ vs, PIx 0 w0 w ρ P G cap s i d gs.length vs (flatG gs) ∧ (∀ i, w.heap.size ≤ i → ρ i = 0) ∧ NdQ w (fun i => ρ i = 0) r nb
theorem ndq_fresh {w w' : World} {ρ : Nat → Nat} {r : Rx} {nb : Nat} (hf : ∀ i, w.heap.size ≤ i → ρ i = 0) (h : NdQ w' (fun i => ρ i = 0 ∨ w.heap.size ≤ i) r nb) : NdQ w' (fun i => ρ i = 0) r nb := h.mono (fun i _ hi => hi.elim id (hf i))
/-- A node is put behind a row. -/
theorem PIx.app {w0 w w6 : World} {ρ : Nat → Nat} {P G cap : Nat} {s : ByteArray} {i : Nat} {d : Int} {n : Nat} {vs : List Value} {R : List (List Rx)} (H : PIx 0 w0 w ρ P G cap s i d n vs R) (hf : ∀ i, w.heap.size ≤ i → ρ i = 0)
    {c : Nat} {b v' : Value} {rs : List Rx} {bs : List Nat} {gg : Nat} {r : Rx} {nb : Nat} (hb : vs[c]? = some b) (hbs : NdsQ w (fun i => ρ i = 0) rs bs) (hbr : ∀ g, b.ownBlock = some g → ρ g = 3 + c) (_hbo : w.ownsRow 0 68 1 b rs.length (bs.map ptr)) (hnb : NdQ w (fun i => ρ i = 0) r nb)
    (hk : Kb (fun i => some i = b.ownBlock) w w6) (ho : w6.ownsRow 0 68 1 v' (rs.length + 1) (bs.map ptr ++ [ptr nb])) (hv : v'.ownBlock = some gg) (hg : b.ownBlock = some gg ∨ w.heap.size ≤ gg) :
    ∃ ρ', PIx 0 w0 (w6.setCell ⟨G, c, none⟩ v') ρ' P G cap s i d n (vs.set c v') (R.set c (rs ++ [r])) ∧ ∀ i, (w6.setCell ⟨G, c, none⟩ v').heap.size ≤ i → ρ' i = 0 := by
  have hc : c < vs.length := (List.getElem?_eq_some_iff.1 hb).1
  obtain ⟨ρ', hρ'⟩ : ∃ ρ' : Nat → Nat, ρ' = fun i => if i = gg then 3 + c else ρ i := ⟨_, rfl⟩
  have hgg : ρ' gg = 3 + c := by rw [hρ']; simp
  have hne : ∀ i, i ≠ gg → ρ' i = ρ i := fun i hi => by rw [hρ']; simp [hi]
  have heq : ∀ i, i < w.heap.size → ρ' i = ρ i := fun i hi => by
    by_cases hi' : i = gg
    · subst hi'
      rcases hg with hg | hg
      · rw [hgg, hbr _ hg]
      · omega
    · exact hne i hi'
  clear hρ'
  have hlow : ∀ i, i < w0.heap.size → ρ' i = 1 ∧ i ≠ P := fun i hi => by
    rw [heq i (Nat.lt_of_lt_of_le hi H.bel.size)]
    exact H.low i hi
  have hx : ∀ i, i < w.heap.size → some i = b.ownBlock → ρ' i = 3 + c := fun i hi he => by rw [heq i hi]; exact hbr i he.symm
  have H2 := ((H.rho heq hlow).hole (h := 3 + c)).kb hk hx (by omega)
  have hnd : ∀ {r : Rx} {b : Nat}, NdQ w (fun i => ρ i = 0) r b → NdQ w6 (fun i => ρ' i = 0) r b := fun h => ndq_kb (h.mono (fun i hi hq => (heq i hi).trans hq)) hk (fun i hi he => by rw [hx i hi he]; omega)
  have hr : RwAt w6 ρ' (3 + c) v' (rs ++ [r]) := by
    refine ⟨bs ++ [nb], by rw [List.length_append, List.map_append]; exact ho, ⟨by simp [hbs.1], fun j x y h1 h2 => ?_⟩, fun g hg' => by rw [hv] at hg'; injection hg' with e; rw [← e]; exact hgg⟩
    have hl := hbs.1
    rcases Nat.lt_or_ge j bs.length with hj | hj
    · rw [List.getElem?_append_left (by omega)] at h1
      rw [List.getElem?_append_left hj] at h2
      exact hnd (hbs.2 j x y h1 h2)
    · have hj2 : j = bs.length := by
        have := (List.getElem?_eq_some_iff.1 h2).1
        simp at this; omega
      subst hj2
      rw [← hl] at h1
      have e1 : r = x := by simpa using h1
      have e2 : nb = y := by simpa using h2
      subst e1; subst e2
      exact hnd hnb
  refine ⟨ρ', H2.set hc hr, fun i hi => ?_⟩
  have hz : (w6.setCell ⟨G, c, none⟩ v').heap.size = w6.heap.size := by simp [World.setCell]
  rw [hz] at hi
  have hlt := own_lt ho hv
  have := hk.size
  rw [hne i (by omega)]
  exact hf i (by omega)

/-- A group's slices. -/
theorem PIx.last {w0 w : World} {ρ : Nat → Nat} {P G cap : Nat} {s : ByteArray} {i : Nat} {d : Int} {lo : List Grp} {g : Grp} {vs : List Value} (H : PIx 0 w0 w ρ P G cap s i d (lo ++ [g]).length vs (flatG (lo ++ [g]))) :
    ∃ a b : Value, vs[lo.length * 2]? = some a ∧ vs[lo.length * 2 + 1]? = some b ∧ RwAt w ρ (3 + lo.length * 2) a g.ways ∧ RwAt w ρ (3 + (lo.length * 2 + 1)) b g.row := by
  have hl := H.lenv
  rw [List.length_append, List.length_singleton] at hl
  obtain ⟨a, ha⟩ : ∃ a, vs[lo.length * 2]? = some a := ⟨_, List.getElem?_eq_getElem (by omega)⟩
  obtain ⟨b, hb⟩ : ∃ b, vs[lo.length * 2 + 1]? = some b := ⟨_, List.getElem?_eq_getElem (by omega)⟩
  exact ⟨a, b, ha, hb, H.rows _ _ _ ha (flatG_ways lo g) (by omega), H.rows _ _ _ hb (flatG_row lo g) (by omega)⟩

set_option maxRecDepth 100000 in
set_option maxHeartbeats 2000000 in
theorem put_any (w0 w : World) (P G cap : Nat) (s : ByteArray) (i : Nat) (d : Int) (lo : List Grp) (g : Grp) (r : Rx) (nb : Nat) (H : PIn w0 w P G cap s i d (lo ++ [g]) r nb) (hlo : lo.length ≤ 100) (hrow : g.row.length ≤ 1000) :
    Calls Tryz.prog 130 #[ptr P, ptr nb] w fun e w' => e = .returned (.tuple #[]) ∧ PI w0 w' P G cap s i d (lo ++ [g.put r]) := by
  obtain ⟨ρ, vs, H1, hf, hnb⟩ := H
  obtain ⟨a, b, ha, hb, ra, rb⟩ := H1.last
  obtain ⟨bs, hbo, hbs, hbr⟩ := rb
  obtain ⟨A, c, hbv, hcap, hcap2⟩ := own_form hbo
  subst hbv
  obtain ⟨_, _, _, _, c4, _⟩ := ps_cells H1.ps
  have hlen : (lo ++ [g]).length = lo.length + 1 := by simp
  have HL := Lib.hid (fun (w' : World) (hp : PsB w' P s i (.slice (some ⟨G, 0, none⟩) (lo ++ [g]).length cap) d false) => last_ps w' P G (lo ++ [g]).length lo.length cap s i d hp hlen (by omega))
  obtain ⟨k2, hk2⟩ : ∃ k2, k2 = lo.length * 2 := ⟨_, rfl⟩
  rw [← hk2] at HL hb hbr
  have HK2 := Lib.hid hk2
  obtain ⟨i0, hi0, hz0, hz1, hz2⟩ := info_parts Tryz.info68
  have HI := Lib.hid hi0; have HZ0 := Lib.hid hz0; have HZ1 := Lib.hid hz1; have HZ2 := Lib.hid hz2
  clear hi0 hz0 hz1 hz2
  obtain ⟨m, hm⟩ : ∃ m, m = g.row.length := ⟨_, rfl⟩
  rw [← hm] at hbo hcap hrow hb hbr
  have HM := Lib.hid hm
  have HX := Lib.hid H1; have HF := Lib.hid hf; have HN := Lib.hid hnb; have HB := Lib.hid hb; have HBO := Lib.hid hbo; have HBS := Lib.hid hbs; have HBR := Lib.hid hbr
  clear H1 hf hnb ha hb ra hbo hbs hbr hlen hk2 hm
  go_enter Tryz.func130, Tryz.ntmps130
  go_wp2_with fail
  refine (HL.out w HX.out.ps).mono ?_
  rintro e w1 ⟨rfl, hb1⟩
  have HX1 := Lib.hid (HX.out.below hb1)
  have HB1 := Lib.hid hb1
  clear hb1
  go_wp2_with fail
  refine (HL.out w1 HX1.out.ps).mono ?_
  rintro e w2 ⟨rfl, hb2⟩
  have HB2 := Lib.hid (below_tr HB1.out hb2 HB1.out.size)
  have HX2 := Lib.hid (HX1.out.below hb2)
  clear hb2
  have q1 := HX2.out.cell HB.out
  have hk2' := Kb.of_below (fun _ => False) HB2.out
  have HO2 := Lib.hid (own_kb HBO.out hk2' (fun _ _ h => h))
  have HN2 := Lib.hid (ndq_kb HN.out hk2' (fun _ _ h => h.elim))
  have HBS2 := Lib.hid (show NdsQ w2 (fun i => ρ i = 0) g.row bs from ⟨HBS.out.1, fun j x y h1 h2 => ndq_kb (HBS.out.2 j x y h1 h2) hk2' (fun _ _ h => h.elim)⟩)
  clear hk2'
  go_wp2_with (at_builtin; refine wpList_append_lies _ rfl _ _ 24 rfl 0 68 i0 _ 1 8 Tryz.underlying24 HI.out HZ0.out HZ1.out HZ2.out rfl (by omega) (.slice A m c) m _ rfl (HO2.out.alloc _) ⟨w2.heap.size, 0, none⟩ 1 1 [ptr nb] rfl rfl (World.news_of_block (cs := #[ptr nb]) (t := 68) (fr := (0, 0)) (heap_alloc_new w2 _)) (by simp [Value.oneCell']) (by omega) (by unfold maxLen; omega) (by omega) (by simp) (w2.heap.size + 1) (by simp) ?_)
  intro gg cap6 w6 hown6 hgrow6 hat6 hlt6
  have hg6 := grown_kb hgrow6
  have hne : ¬ some G = (Value.slice A m c).ownBlock := fun he => by
    have h1 := HBR.out G he.symm
    rw [HX.out.rG] at h1; omega
  obtain ⟨hfc, hff⟩ := far_cell (a := ⟨G, k2 + 1, none⟩) hg6 HX2.out.ltG hne
  rw [HX2.out.cell HB.out] at hfc
  rw [HX2.out.frozen] at hff
  obtain ⟨ρ', hp, hf'⟩ := HX2.out.app (fun i hi => HF.out i (Nat.le_trans HB2.out.size hi)) HB.out HBS2.out HBR.out (by rw [← HM.out]; exact HO2.out) HN2.out hg6 (by rw [← HM.out]; exact hown6) rfl (hat6.imp id (fun h => by omega))
  have HFin := Lib.hid (show PI w0 (w6.setCell ⟨G, k2 + 1, none⟩ (.slice (some ⟨gg, 0, none⟩) (m + 1) cap6)) P G cap s i d (lo ++ [g.put r]) from ⟨ρ', _, by
    have e1 : (flatG (lo ++ [g])).set (k2 + 1) (g.row ++ [r]) = flatG (lo ++ [g.put r]) := by rw [HK2.out]; exact flatG_set_row lo g _
    have e2 : (lo ++ [g]).length = (lo ++ [g.put r]).length := by simp
    rw [← e1, ← e2]; exact hp, hf'⟩)
  clear hown6 hgrow6 hat6 hlt6 hg6 hp hf'
  go_wp2
  go_end0
  exact ⟨rfl, HFin.out⟩
end Go.Proofs.YtejdfpieblkapaaGreatDoor

/- Carried from another seat. -/
namespace Go.Proofs.YtejdfpieblkapaaGreatDoor
open Go.RowKit Go.Shelf


theorem own_row {w : World} {n c : Nat} {A : Option Addr} {bs : List Nat} (h : w.ownsRow 0 68 1 (.slice A n c) n (bs.map ptr)) : RowAt w A bs := by
  have hl := h.1
  rw [List.length_map] at hl
  rcases h.2 with ⟨hv, hn⟩ | ⟨g, cap, cur, hv, _, hh, _, _, _, h4⟩
  · exact .inl (List.length_eq_zero_iff.1 (by omega))
  · injection hv with e1 e2 e3
    refine .inr ⟨g, cur, _, e1, hh, fun i b hb => ?_⟩
    have : (bs.map ptr)[i]? = some (ptr b) := by rw [List.getElem?_map, hb]; rfl
    rw [← h4, List.getElem?_take_of_lt (by have := (List.getElem?_eq_some_iff.1 hb).1; omega)] at this
    simpa using this
/-- A group's bounds. -/
structure Grp.Ok (g : Grp) : Prop where
  ways : g.ways.length ≤ 900
  row : g.row.length ≤ 900
  szw : ∀ r ∈ g.ways, r.size ≤ 50000
  szr : szs g.row ≤ 20000
theorem Grp.Ok.szr' {g : Grp} (h : g.Ok) : ∀ r ∈ g.row, r.size ≤ 100000 := fun r hr => by have := szs_mem hr; have := h.szr; omega

set_option maxRecDepth 100000 in
set_option maxHeartbeats 4000000 in
theorem nextWay_any (w0 w : World) (P G cap : Nat) (s : ByteArray) (i : Nat) (d : Int) (lo : List Grp) (g : Grp) (H : PI w0 w P G cap s i d (lo ++ [g])) (hok : g.Ok) :
    Calls Tryz.prog 115 #[.pointer (some ⟨G, lo.length * 2, none⟩)] w fun e w' => e = .returned (.tuple #[]) ∧ PI w0 w' P G cap s i d (lo ++ [g.nextWay]) := by
  obtain ⟨ρ, vs, H1, hf⟩ := H
  obtain ⟨a, b, ha, hb, ra, rb⟩ := H1.last
  obtain ⟨asl, hao, has, har⟩ := ra
  obtain ⟨bs, hbo, hbs, hbr⟩ := rb
  obtain ⟨A, ca, hav, hcapa, hcapa2⟩ := own_form hao
  obtain ⟨B, cb, hbv, hcapb, hcapb2⟩ := own_form hbo
  subst hav; subst hbv
  have h1 := hok.ways; have h2 := hok.row
  have hbd : Below w.heap.size w w.drew := (Below.refl _ w).drew
  have hkd := Kb.of_below (fun _ => False) hbd
  have hbl : g.row.length = bs.length := hbs.1
  have HC := Lib.hid (cat_q (fun i => ρ i = 0) cb g.row.length B bs g.row w.drew (own_row (own_kb hbo hkd (fun _ _ h => h))) ⟨hbs.1, fun j x y h1 h2 => ndq_kb (hbs.2 j x y h1 h2) hkd (fun _ _ h => h.elim)⟩ hbl.symm hcapb hcapb2 (by omega) hok.szr')
  obtain ⟨k2, hk2⟩ : ∃ k2, k2 = lo.length * 2 := ⟨_, rfl⟩
  rw [← hk2] at ha hb har ⊢
  have q1 := H1.cell ha
  have q2 := H1.cell hb
  obtain ⟨m, hm⟩ : ∃ m, m = g.ways.length := ⟨_, rfl⟩
  rw [← hm] at hao hcapa h1 q1 ha har
  obtain ⟨n, hn⟩ : ∃ n, n = g.row.length := ⟨_, rfl⟩
  rw [← hn] at HC q2 hcapb hb
  have HK2 := Lib.hid hk2; have HM := Lib.hid hm
  obtain ⟨i0, hi0, hz0, hz1, hz2⟩ := info_parts Tryz.info68
  have HI := Lib.hid hi0; have HZ0 := Lib.hid hz0; have HZ1 := Lib.hid hz1; have HZ2 := Lib.hid hz2
  clear hi0 hz0 hz1 hz2
  have HX := Lib.hid H1; have HF := Lib.hid hf; have HA := Lib.hid ha; have HBB := Lib.hid hb; have HAO := Lib.hid hao; have HAS := Lib.hid has; have HAR := Lib.hid har
  have HLn := Lib.hid H1.lenv
  clear H1 hf ha hb hbo hbs hbr hao has har hk2 hm hn hbl hbd hkd h2 hok
  go_enter Tryz.func115, Tryz.ntmps115
  go_wp2_with fail
  go_region_law (first | (go_simp; go_at_call 139; (with_reducible refine HC.out.mono ?_); rintro e w2 ⟨nb, rfl, y1, y2⟩; have hX2 := HX.out.below (below_tr ((Below.refl _ w).drew) y2 (Nat.le_refl _)); have hk2' := Kb.of_below (fun _ => False) (below_tr ((Below.refl _ w).drew) y2 (Nat.le_refl _)); have ho2 : w2.ownsRow 0 68 1 (.slice A m ca) m (asl.map ptr) := own_kb HAO.out hk2' (fun _ _ h => h); have e2 : w2.cell? ⟨G, k2, none⟩ = some (.slice A m ca) := hX2.cell HA.out; have e2a : ∀ o : Obj, (w2.alloc o).cell? ⟨G, k2, none⟩ = some (.slice A m ca) := fun o => (hX2.below ((Below.refl _ w2).alloc (Nat.le_refl _) o)).cell HA.out) | (refine step_append_lies _ (by rfl) _ _ _ (by rfl) 0 68 i0 _ 1 8 Tryz.underlying24 HI.out HZ0.out HZ1.out HZ2.out rfl (by omega) (.slice A m ca) m (asl.map ptr) (by rfl) (ho2.alloc _) ⟨w2.heap.size, 0, none⟩ 1 1 [ptr nb] (by rfl) (by rfl) (World.news_of_block (cs := #[ptr nb]) (t := 68) (fr := (0, 0)) (heap_alloc_new w2 _)) (by simp [Value.oneCell']) (by omega) (by unfold maxLen; omega) (by omega) (by simp) (w2.heap.size + 1) (by simp) ?_; intro gg cap6 w6 hown6 hgrow6 hat6 hlt6; have hg6 := grown_kb hgrow6; have hne : ¬ some G = (Value.slice A m ca).ownBlock := (fun he => by have h1 := HAR.out G he.symm; rw [HX.out.rG] at h1; omega); have ef6 : w6.frozen? ⟨G, k2, none⟩ = false := (far_cell (a := ⟨G, k2, none⟩) hg6 hX2.ltG hne).2.trans (hX2.frozen k2); have ec6 : w6.cell? ⟨G, k2, none⟩ = some (.slice A m ca) := (far_cell (a := ⟨G, k2, none⟩) hg6 hX2.ltG hne).1.trans e2))
  all_goals
    obtain ⟨ρ', hp, hf'⟩ := hX2.app (r := catR g.row) (fun i hi => HF.out i (Nat.le_trans hk2'.size hi)) HA.out ⟨HAS.out.1, fun j x y h1 h2 => ndq_kb (HAS.out.2 j x y h1 h2) hk2' (fun _ _ h => h.elim)⟩ HAR.out (by rw [← HM.out]; exact ho2) (ndq_fresh (w := w) HF.out y1) hg6 (by rw [← HM.out]; exact hown6) rfl (hat6.imp id (fun h => by omega))
    have hln := HLn.out
    rw [List.length_append, List.length_singleton] at hln
    have hp2 := (hp.hole (h := 3 + (k2 + 1))).set (c := k2 + 1) (v := .slice none 0 0) (rs := []) (by rw [List.length_set, HK2.out]; omega) (RwAt.nil _ _ _)
    have ef7 := hp.frozen (k2 + 1)
    have ec7 := hp.cell (c := k2 + 1) (v := .slice B n cb) (by rw [List.getElem?_set_ne (by omega)]; exact HBB.out)
    have HFin := Lib.hid (show PI w0 ((w6.setCell ⟨G, k2, none⟩ (.slice (some ⟨gg, 0, none⟩) (m + 1) cap6)).setCell ⟨G, k2 + 1, none⟩ (.slice none 0 0)) P G cap s i d (lo ++ [g.nextWay]) from ⟨ρ', _, by
      have e1 : ((flatG (lo ++ [g])).set k2 (g.ways ++ [catR g.row])).set (k2 + 1) [] = flatG (lo ++ [g.nextWay]) := by
        rw [HK2.out, flatG_set_ways, flatG_set_row]; rfl
      have e2 : (lo ++ [g]).length = (lo ++ [g.nextWay]).length := by simp
      rw [← e1, ← e2]; exact hp2, fun i hi => hf' i (by simpa [World.setCell] using hi)⟩)
    clear hown6 hgrow6 hat6 hlt6 hg6 hp hf' hX2 hk2' ho2 e2 e2a ef6 ec6 y1 y2 hp2 hln
    try go_wp2
    first | go_ret | go_end0
    exact ⟨rfl, HFin.out⟩
end Go.Proofs.YtejdfpieblkapaaGreatDoor

/- Carried from another seat. -/
namespace Go.Proofs.YtejdfpieblkapaaGreatDoor
open Go.RowKit Go.Shelf


theorem Grp.Ok.next {g : Grp} (h : g.Ok) : (∀ r ∈ g.nextWay.ways, r.size ≤ 100000) ∧ g.nextWay.ways.length ≤ 901 := by
  refine ⟨fun r hr => ?_, by show (g.ways ++ [catR g.row]).length ≤ _; rw [List.length_append]; have := h.ways; simp; omega⟩
  rcases List.mem_append.1 hr with hr | hr
  · have := h.szw r hr; omega
  · rw [List.mem_singleton.1 hr]
    have := catR_size g.row
    have := h.szr
    omega

set_option maxRecDepth 100000 in
set_option maxHeartbeats 2000000 in
theorem whole_any (w0 w : World) (P G cap : Nat) (s : ByteArray) (i : Nat) (d : Int) (lo : List Grp) (g : Grp) (H : PI w0 w P G cap s i d (lo ++ [g])) (hok : g.Ok) :
    Calls Tryz.prog 75 #[.pointer (some ⟨G, lo.length * 2, none⟩)] w fun e w' => ∃ nb, e = .returned (ptr nb) ∧ PIn w0 w' P G cap s i d (lo ++ [g.nextWay]) g.whole nb := by
  have HN := Lib.hid (nextWay_any w0 w P G cap s i d lo g H hok)
  obtain ⟨k2, hk2⟩ : ∃ k2, k2 = lo.length * 2 := ⟨_, rfl⟩
  rw [← hk2] at HN ⊢
  have HK2 := Lib.hid hk2; have HOK := Lib.hid hok
  clear H hok hk2
  go_enter Tryz.func75, Tryz.ntmps75
  go_wp2_with fail
  refine HN.out.mono ?_
  rintro e w1 ⟨rfl, ρ, vs, H1, hf⟩
  obtain ⟨a, b, ha, hb, ra, rb⟩ := H1.last
  obtain ⟨asl, hao, has, har⟩ := ra
  obtain ⟨A, ca, hav, hcapa, hcapa2⟩ := own_form hao
  subst hav
  have hok := HOK.out.next
  have HC := Lib.hid (or_q (fun i => ρ i = 0) ca g.nextWay.ways.length A asl g.nextWay.ways w1 (own_row hao) has has.1.symm hcapa hcapa2 (by omega) hok.1)
  rw [← HK2.out] at ha
  have q1 := H1.cell ha
  generalize g.nextWay.ways.length = m at HC q1
  have HX := Lib.hid H1; have HF := Lib.hid hf
  clear H1 hf ha hb rb hao has har hok hcapa
  go_wp2_with fail
  refine HC.out.mono ?_
  rintro e w2 ⟨nb, rfl, y1, y2⟩
  have HFin := Lib.hid (show PIn w0 w2 P G cap s i d (lo ++ [g.nextWay]) g.whole nb from ⟨ρ, vs, HX.out.below y2, fun i hi => HF.out i (Nat.le_trans y2.size hi), ndq_fresh HF.out y1⟩)
  clear y1 y2
  go_wp2
  go_ret
  exact ⟨nb, rfl, HFin.out⟩

section
variable {w0 w w6 : World} {ρ : Nat → Nat} {P G cap : Nat} {s : ByteArray} {i : Nat} {d : Int} {n : Nat} {vs : List Value} {R : List (List Rx)}
/-- A group is pushed. -/
theorem PIx.push (H : PIx 0 w0 w ρ P G cap s i d n vs R) (hf : ∀ i, w.heap.size ≤ i → ρ i = 0) {gg cap6 : Nat} (hk : Kb (fun i => i = G) w w6) (ho : w6.ownsRow 0 168 2 (.slice (some ⟨gg, 0, none⟩) (n + 1) cap6) (n + 1) (vs ++ [.slice none 0 0, .slice none 0 0])) (hg : gg = G ∨ w.heap.size ≤ gg) :
    ∃ ρ', PIx 0 w0 (w6.setCell ⟨P, 2, none⟩ (.slice (some ⟨gg, 0, none⟩) (n + 1) cap6)) ρ' P gg cap6 s i d (n + 1) (vs ++ [.slice none 0 0, .slice none 0 0]) (R ++ [[], []]) ∧ ∀ i, (w6.setCell ⟨P, 2, none⟩ (.slice (some ⟨gg, 0, none⟩) (n + 1) cap6)).heap.size ≤ i → ρ' i = 0 := by
  obtain ⟨ρ', hρ'⟩ : ∃ ρ' : Nat → Nat, ρ' = fun i => if i = gg then 2 else ρ i := ⟨_, rfl⟩
  have hgg : ρ' gg = 2 := by rw [hρ']; simp
  have hne : ∀ i, i ≠ gg → ρ' i = ρ i := fun i hi => by rw [hρ']; simp [hi]
  have heq : ∀ i, i < w.heap.size → ρ' i = ρ i := fun i hi => by
    by_cases hi' : i = gg
    · subst hi'
      rcases hg with hg | hg
      · rw [hgg, hg, H.rG]
      · omega
    · exact hne i hi'
  clear hρ'
  have hlow : ∀ i, i < w0.heap.size → ρ' i = 1 ∧ i ≠ P := fun i hi => by
    rw [heq i (Nat.lt_of_lt_of_le hi H.bel.size)]
    exact H.low i hi
  have H1 := H.rho heq hlow
  have hP1 : ρ' P = 1 := H1.rP
  have hPl := H.ltP
  have hgl : gg < w6.heap.size := own_lt ho rfl
  have hPg : P ≠ gg := fun e => by rw [e, hgg] at hP1; omega
  have hps6 : PsB w6 P s i (.slice (some ⟨G, 0, none⟩) n cap) d false := (hk.block P hPl H.neq).trans H.ps
  have hk7 := Kb.setCell w6 ⟨P, 2, none⟩ (.slice (some ⟨gg, 0, none⟩) (n + 1) cap6)
  have hx6 : ∀ i, i < w.heap.size → i = G → ρ' i = 2 := fun i _ he => by rw [he]; exact H1.rG
  have hz : (w6.setCell ⟨P, 2, none⟩ (.slice (some ⟨gg, 0, none⟩) (n + 1) cap6)).heap.size = w6.heap.size := by simp [World.setCell]
  refine ⟨ρ', ⟨?_, own_kb ho hk7 (fun g hg' he => ?_), by rw [List.length_append, List.length_append, H.len]; rfl, fun c v rs h1 h2 _ => ?_, hP1, hgg, hlow, ?_⟩, fun i hi => ?_⟩
  · unfold PsB at hps6 ⊢
    rw [set_heap w6 P 2 _ _ _ _ hps6]; rfl
  · have : gg = g := by simpa [Value.ownBlock] using hg'
    exact hPg (by rw [this]; exact he.symm)
  · rcases Nat.lt_or_ge c vs.length with hc | hc
    · rw [List.getElem?_append_left hc] at h1
      rw [List.getElem?_append_left (by rw [H.len]; exact hc)] at h2
      refine ((H1.rows c v rs h1 h2 (by omega)).keep hk (fun i hi he => ?_)).keep hk7 (fun i hi he => ?_)
      · rw [hx6 i hi he]; omega
      · have he' : i = P := he
        rw [he', hP1]; omega
    · rw [List.getElem?_append_right hc] at h1
      rw [List.getElem?_append_right (by rw [H.len]; exact hc), H.len] at h2
      have hc2 : c - vs.length = 0 ∨ c - vs.length = 1 := by
        have := (List.getElem?_eq_some_iff.1 h1).1
        simp at this; omega
      rcases hc2 with hc2 | hc2 <;> rw [hc2] at h1 h2 <;> (
        have e1 : Value.slice none 0 0 = v := by simpa using h1
        have e2 : ([] : List Rx) = rs := by simpa using h2
        subst e1; subst e2
        exact RwAt.nil _ _ _)
  · have hPw : w0.heap.size ≤ P := H.lo (.inr rfl)
    have hGw : w0.heap.size ≤ G := H.lo (.inl (by rw [H.rG]; omega))
    exact (H.bel.trans (hk.below H.bel.size (fun i he => by rw [he]; exact hGw))).trans (hk7.below (Nat.le_trans H.bel.size hk.size) (fun i he => by rw [show i = P from he]; exact hPw))
  · rw [hz] at hi
    have := hk.size
    rw [hne i (by omega)]
    exact hf i (by omega)
/-- A group is popped. -/
theorem PIx.pop {n' : Nat} (H : PIx 0 w0 w ρ P G cap s i d n vs R) (hn : n' ≤ n) :
    PIx 0 w0 (w.setCell ⟨P, 2, none⟩ (.slice (some ⟨G, 0, none⟩) n' cap)) ρ P G cap s i d n' (vs.take (n' * 2)) (R.take (n' * 2)) := by
  obtain ⟨cur, h1, h2, h3, h4, h5⟩ := H.blk
  have hk7 := Kb.setCell w ⟨P, 2, none⟩ (.slice (some ⟨G, 0, none⟩) n' cap)
  have hP1 := H.rP
  have hl := H.lenv
  refine ⟨?_, ⟨by rw [List.length_take]; omega, .inr ⟨G, cap, cur, rfl, Nat.zero_le _, (hk7.block G H.ltG (fun e => H.neq (show G = P from e).symm)).trans h1, by omega, h4, h5, by rw [← h2, List.take_take]; congr 1; omega⟩⟩, by rw [List.length_take, List.length_take, H.len], fun c v rs h1 h2 _ => ?_, hP1, H.rG, H.low, H.bel.trans (hk7.below H.bel.size (fun i he => by rw [show i = P from he]; exact H.lo (.inr rfl)))⟩
  · have hp := H.ps
    unfold PsB at hp ⊢
    rw [set_heap w P 2 _ _ _ _ hp]; rfl
  · rw [List.getElem?_take] at h1 h2
    split at h1
    · rename_i hc
      rw [if_pos hc] at h2
      refine (H.rows c v rs h1 h2 (by omega)).keep hk7 (fun i hi he => ?_)
      have he' : i = P := he
      rw [he', hP1]; omega
    · cases h1
end
theorem flatG_take (a b : List Grp) : (flatG (a ++ b)).take (a.length * 2) = flatG a := by
  rw [flatG_append, ← flatG_len a, List.take_left]

theorem Tryz.info168 : (Tryz.prog.info? 168).map (fun i => (i.zero, i.size, i.bytes)) = some (some (.agg #[.slice none 0 0, .slice none 0 0]), 2, 48) := by kernel_rfl
set_option maxRecDepth 100000 in
set_option maxHeartbeats 2000000 in
theorem begin_pi (w0 w : World) (P G cap : Nat) (s : ByteArray) (i : Nat) (d : Nat) (gs : List Grp) (H : PI w0 w P G cap s i d gs) (hlo : gs.length ≤ 100) (hd : d ≤ 1000000) :
    Calls Tryz.prog 108 #[ptr P] w fun e w' => e = .returned (.tuple #[]) ∧ ∃ G' cap', PI w0 w' P G' cap' s i ((d + 1 : Nat) : Int) (gs ++ [g0]) := by
  obtain ⟨ρ, vs, H1, hf⟩ := H
  obtain ⟨_, _, c2, c3, c4, cf⟩ := ps_cells H1.ps
  have f3 := cf 3
  have f2 := cf 2
  obtain ⟨d1, hd1⟩ : ∃ d1 : Int, d1 = ((d + 1 : Nat) : Int) := ⟨_, rfl⟩
  have p1 : IntKind.i64.wrap ((d : Int) + 1) = d1 := by rw [hd1, IntWalk.i64_in _ (by omega)]; omega
  have hps1 : PsB (w.setCell ⟨P, 3, none⟩ (.int .i64 d1)) P s i (.slice (some ⟨G, 0, none⟩) gs.length cap) d1 false := by
    have hp := H1.ps
    unfold PsB at hp ⊢
    rw [set_heap w P 3 _ _ _ _ hp]; rfl
  have H2 := H1.psk (Kb.setCell w ⟨P, 3, none⟩ (.int .i64 d1)) hps1
  have hz2 : (w.setCell ⟨P, 3, none⟩ (.int .i64 d1)).heap.size = w.heap.size := by simp [World.setCell]
  rw [← hd1]
  have HD1 := Lib.hid hd1
  obtain ⟨i0, hi0, hz0, hz1, hz2'⟩ := info_parts Tryz.info168
  have HI := Lib.hid hi0; have HZ0 := Lib.hid hz0; have HZ1 := Lib.hid hz1; have HZ2 := Lib.hid hz2'
  clear hi0 hz0 hz1 hz2'
  have HX := Lib.hid H2; have HF := Lib.hid (show ∀ i, (w.setCell ⟨P, 3, none⟩ (.int .i64 d1)).heap.size ≤ i → ρ i = 0 by rw [hz2]; exact hf); have HPS := Lib.hid hps1
  have hPl := H1.ltP
  clear H1 H2 hf hps1 cf hd1
  go_enter Tryz.func108, Tryz.ntmps108
  go_wp2_with (at_builtin; refine wpList_append_lies _ rfl _ _ 121 rfl 0 168 i0 _ 2 48 Tryz.underlying121 HI.out HZ0.out HZ1.out HZ2.out rfl (by omega) (.slice (some ⟨G, 0, none⟩) gs.length cap) gs.length _ rfl (HX.out.own.alloc _) ⟨(w.setCell ⟨P, 3, none⟩ (.int .i64 d1)).heap.size, 0, none⟩ 1 1 [.slice none 0 0, .slice none 0 0] (by rw [hz2]; rfl) rfl (World.news_of_block (cs := #[.slice none 0 0, .slice none 0 0]) (t := 168) (fr := (0, 0)) (heap_alloc_new (w.setCell ⟨P, 3, none⟩ (.int .i64 d1)) _)) (by simp [Value.oneCell']) (by omega) (by unfold maxLen; omega) (by omega) (by simp) ((w.setCell ⟨P, 3, none⟩ (.int .i64 d1)).heap.size + 1) (by simp) ?_)
  intro gg cap6 w6 hown6 hgrow6 hat6 hlt6
  have hg6 : Kb (fun i => i = G) (w.setCell ⟨P, 3, none⟩ (.int .i64 d1)) w6 := (grown_kb hgrow6).wider (fun i hi => by
    have : some i = some G := hi
    injection this)
  obtain ⟨ρ', hp, hf'⟩ := HX.out.push HF.out hg6 hown6 (hat6.imp (fun h => by
    have : some G = some gg := h
    injection this with e
    exact e.symm) (fun h => by omega))
  obtain ⟨hfc, hff⟩ := far_cell (a := ⟨P, 2, none⟩) hg6 HX.out.ltP HX.out.neq
  rw [(ps_cells HPS.out).2.2.1] at hfc
  rw [(ps_cells HPS.out).2.2.2.2.2 2] at hff
  have HFin := Lib.hid (show PI w0 (w6.setCell ⟨P, 2, none⟩ (.slice (some ⟨gg, 0, none⟩) (gs.length + 1) cap6)) P gg cap6 s i d1 (gs ++ [g0]) from ⟨ρ', _, by
    have e1 : flatG gs ++ [[], []] = flatG (gs ++ [g0]) := by rw [flatG_append]; rfl
    have e2 : gs.length + 1 = (gs ++ [g0]).length := by simp
    rw [← e1, ← e2]; exact hp, hf'⟩)
  clear hown6 hgrow6 hat6 hlt6 hg6 hp hf'
  go_wp2
  go_end0
  exact ⟨rfl, _, _, HFin.out⟩
end Go.Proofs.YtejdfpieblkapaaGreatDoor

/- Carried from another seat. -/
namespace Go.Proofs.YtejdfpieblkapaaGreatDoor
open Go.RowKit Go.Shelf


/-- The parser's state: groups, or that it is too long. -/
def PS (w0 w : World) (P : Nat) (s : ByteArray) (i : Nat) (d : Int) : Option (List Grp × Grp) → Prop
  | some (lo, g) => ∃ G cap, PI w0 w P G cap s i d (lo ++ [g])
  | none => PsB w P s i (.slice none 0 0) d true ∧ w0.heap.size ≤ P ∧ Below w0.heap.size w0 w

set_option maxHeartbeats 1000000 in
theorem alt_some (w0 w : World) (P G cap : Nat) (s : ByteArray) (i : Nat) (d : Int) (lo : List Grp) (g : Grp) (H : PI w0 w P G cap s i d (lo ++ [g])) (hok : g.Ok) (hlo : lo.length ≤ 100) :
    Calls Tryz.prog 107 #[ptr P] w fun e w' => e = .returned (.tuple #[]) ∧ PI w0 w' P G cap s i d (lo ++ [g.nextWay]) := by
  obtain ⟨_, _, _, _, c4, _⟩ := ps_cells H.ps
  have HL := Lib.hid (last_ps w P G (lo ++ [g]).length lo.length cap s i d H.ps (by simp) (by omega))
  have HN := Lib.hid (fun w' h => nextWay_any w0 w' P G cap s i d lo g h hok)
  have HH := Lib.hid H
  clear H
  generalize lo.length * 2 = k2 at HL HN
  go_enter Tryz.func107, Tryz.ntmps107
  go_wp2_with fail
  refine HL.out.mono ?_
  rintro e w1 ⟨rfl, hb1⟩
  have HN1 := Lib.hid (HN.out w1 (HH.out.below hb1))
  clear hb1
  go_wp2_with fail
  refine HN1.out.mono ?_
  rintro e w2 ⟨rfl, h2⟩
  have HF := Lib.hid h2
  clear h2
  go_wp2
  go_end0
  exact ⟨rfl, HF.out⟩
set_option maxHeartbeats 1000000 in
theorem alt_none (w : World) (P : Nat) (s : ByteArray) (i : Nat) (ov : Value) (d : Int) (H : PsB w P s i ov d true) :
    Calls Tryz.prog 107 #[ptr P] w fun e w' => e = .returned (.tuple #[]) ∧ w' = w := by
  obtain ⟨_, _, _, _, c4, _⟩ := ps_cells H
  clear H
  go_enter Tryz.func107, Tryz.ntmps107
  go_wp2
  go_end0
  exact ⟨rfl, rfl⟩

theorem deep_ps {w : World} {P : Nat} {s : ByteArray} {i : Nat} {ov : Value} {d : Int} {l : Bool} (h : PsB w P s i ov d l) (d1 : Int) : PsB (w.setCell ⟨P, 3, none⟩ (.int .i64 d1)) P s i ov d1 l := by
  unfold PsB at h ⊢
  rw [set_heap w P 3 _ _ _ _ h]; rfl
theorem PI.deep {w0 w : World} {P G cap : Nat} {s : ByteArray} {i : Nat} {d : Int} {gs : List Grp} (H : PI w0 w P G cap s i d gs) (d1 : Int) : PI w0 (w.setCell ⟨P, 3, none⟩ (.int .i64 d1)) P G cap s i d1 gs := H.psk (Kb.setCell w ⟨P, 3, none⟩ _) (deep_ps H.ps d1)

set_option maxRecDepth 100000 in
set_option maxHeartbeats 2000000 in
theorem end_some (w0 w : World) (P G cap : Nat) (s : ByteArray) (i d : Nat) (lo : List Grp) (b g : Grp) (H : PI w0 w P G cap s i ((d + 1 : Nat) : Int) (lo ++ [b] ++ [g])) (hok : g.Ok) (hlo : lo.length ≤ 100) (hd : d ≤ 1000000) (hrow : b.row.length ≤ 1000) :
    Calls Tryz.prog 109 #[ptr P] w fun e w' => e = .returned (.tuple #[]) ∧ PI w0 w' P G cap s i d (lo ++ [b.put g.whole]) := by
  obtain ⟨_, _, _, c3, c4, cf⟩ := ps_cells H.ps
  have f3 := cf 3
  obtain ⟨dd, hdd⟩ : ∃ dd : Int, dd = ((d + 1 : Nat) : Int) := ⟨_, rfl⟩
  have p1 : IntKind.i64.wrap (dd - 1) = (d : Int) := by rw [hdd, IntWalk.i64_in _ (by omega)]; omega
  rw [← hdd] at c3
  have H1 := H.deep (d : Int)
  have HL := Lib.hid (last_ps _ P G (lo ++ [b] ++ [g]).length (lo ++ [b]).length cap s i d H1.ps (by simp) (by simp; omega))
  have HN := Lib.hid (fun w' h => whole_any w0 w' P G cap s i d (lo ++ [b]) g h hok)
  have HH := Lib.hid H1
  clear H H1 hdd cf
  generalize (lo ++ [b]).length * 2 = k2 at HL HN
  go_enter Tryz.func109, Tryz.ntmps109
  go_wp2_with fail
  refine HL.out.mono ?_
  rintro e w1 ⟨rfl, hb1⟩
  have HN1 := Lib.hid (HN.out w1 (HH.out.below hb1))
  clear hb1
  go_wp2_with fail
  refine HN1.out.mono ?_
  rintro e w2 ⟨nb, rfl, ρ, vs, X1, X2, X3⟩
  obtain ⟨_, _, q2, _, _, qf⟩ := ps_cells X1.ps
  have f2 := qf 2
  obtain ⟨n, hn⟩ : ∃ n, n = (lo ++ [b] ++ [g.nextWay]).length := ⟨_, rfl⟩
  obtain ⟨n1, hn1⟩ : ∃ n1, n1 = (lo ++ [b]).length := ⟨_, rfl⟩
  rw [← hn] at q2 X1
  have hnn : n = n1 + 1 := by rw [hn, hn1]; simp
  have hn1b : n1 ≤ 101 := by rw [hn1]; simp; omega
  obtain ⟨_, _, _, hcn, _, _⟩ := X1.blk
  have r1 : IntKind.i64.wrap ((n : Int) - 1) = (n1 : Int) := by rw [hnn, IntWalk.i64_in _ (by omega)]; omega
  have r2 : (0 : Int) ≤ (n1 : Int) := by omega
  have r3 : (n1 : Int) ≤ (cap : Int) := by omega
  have hpop := X1.pop (n' := n1) (by omega)
  have hnq := ndq_kb X3 (Kb.setCell w2 ⟨P, 2, none⟩ (.slice (some ⟨G, 0, none⟩) n1 cap)) (fun i _ he => by have he' : i = P := he; rw [he', X1.rP]; omega)
  have hfin : PIn w0 (w2.setCell ⟨P, 2, none⟩ (.slice (some ⟨G, 0, none⟩) n1 cap)) P G cap s i d (lo ++ [b]) g.whole nb := by
    refine ⟨ρ, vs.take (n1 * 2), ?_, fun i hi => X2 i (by simpa [World.setCell] using hi), hnq⟩
    rw [hn1] at hpop ⊢
    have e1 := flatG_take (lo ++ [b]) [g.nextWay]
    rw [e1] at hpop
    exact hpop
  have hfd : PIn w0 (w2.setCell ⟨P, 2, none⟩ (.slice (some ⟨G, 0, none⟩) n1 cap)).drew P G cap s i d (lo ++ [b]) g.whole nb := by
    obtain ⟨ρ, vs, Y1, Y2, Y3⟩ := hfin
    have hbd : Below (w2.setCell ⟨P, 2, none⟩ (.slice (some ⟨G, 0, none⟩) n1 cap)).heap.size (w2.setCell ⟨P, 2, none⟩ (.slice (some ⟨G, 0, none⟩) n1 cap)) (w2.setCell ⟨P, 2, none⟩ (.slice (some ⟨G, 0, none⟩) n1 cap)).drew := (Below.refl _ _).drew
    exact ⟨ρ, vs, Y1.below hbd, Y2, ndq_kb Y3 (Kb.of_below (fun _ => False) hbd) (fun _ _ h => h.elim)⟩
  have HP := Lib.hid (put_any w0 _ P G cap s i d lo b g.whole nb hfd (by omega) hrow)
  clear hfin hfd hpop hnq X1 X2 X3 qf hn hn1 hnn hn1b hcn
  go_wp2_with fail
  go_region
  go_wp2_with fail
  refine HP.out.mono ?_
  rintro e w3 ⟨rfl, h3⟩
  have HF := Lib.hid h3
  clear h3
  go_wp2
  go_end0
  exact ⟨rfl, HF.out⟩
set_option maxHeartbeats 1000000 in
theorem end_none (w : World) (P : Nat) (s : ByteArray) (i : Nat) (ov : Value) (d : Nat) (H : PsB w P s i ov ((d + 1 : Nat) : Int) true) (hd : d ≤ 1000000) :
    Calls Tryz.prog 109 #[ptr P] w fun e w' => e = .returned (.tuple #[]) ∧ PsB w' P s i ov d true ∧ Kb (fun j => j = P) w w' := by
  obtain ⟨_, _, _, c3, c4, cf⟩ := ps_cells H
  have f3 := cf 3
  obtain ⟨dd, hdd⟩ : ∃ dd : Int, dd = ((d + 1 : Nat) : Int) := ⟨_, rfl⟩
  have p1 : IntKind.i64.wrap (dd - 1) = (d : Int) := by rw [hdd, IntWalk.i64_in _ (by omega)]; omega
  rw [← hdd] at c3
  have HF := Lib.hid (deep_ps H (d : Int))
  clear H hdd cf
  go_enter Tryz.func109, Tryz.ntmps109
  go_wp2
  go_end0
  exact ⟨rfl, HF.out, Kb.setCell w ⟨P, 3, none⟩ _⟩
set_option maxHeartbeats 1000000 in
theorem begin_none (w : World) (P : Nat) (s : ByteArray) (i : Nat) (ov : Value) (d : Nat) (H : PsB w P s i ov d true) (hd : d ≤ 1000000) :
    Calls Tryz.prog 108 #[ptr P] w fun e w' => e = .returned (.tuple #[]) ∧ PsB w' P s i ov ((d + 1 : Nat) : Int) true ∧ Kb (fun j => j = P) w w' := by
  obtain ⟨_, _, _, c3, c4, cf⟩ := ps_cells H
  have f3 := cf 3
  obtain ⟨dd, hdd⟩ : ∃ dd : Int, dd = ((d + 1 : Nat) : Int) := ⟨_, rfl⟩
  have p1 : IntKind.i64.wrap ((d : Int) + 1) = dd := by rw [hdd, IntWalk.i64_in _ (by omega)]; omega
  rw [← hdd]
  have HF := Lib.hid (deep_ps H dd)
  clear H hdd cf
  go_enter Tryz.func108, Tryz.ntmps108
  go_wp2
  go_end0
  exact ⟨rfl, HF.out, Kb.setCell w ⟨P, 3, none⟩ _⟩
end Go.Proofs.YtejdfpieblkapaaGreatDoor

/- Carried from another seat. -/
namespace Go.Proofs.YtejdfpieblkapaaGreatDoor
open Go.RowKit Go.Shelf


/-- A row's last node. -/
theorem RwAt.lastNd {w : World} {ρ : Nat → Nat} {role : Nat} {v : Value} {rs : List Rx} {z : Rx} (h : RwAt w ρ role v (rs ++ [z])) : ∃ gr c bz, v = .slice (some ⟨gr, 0, none⟩) (rs.length + 1) c ∧ rs.length + 1 ≤ c ∧ c ≤ 9223372036854775807 ∧ w.cell? ⟨gr, rs.length, none⟩ = some (ptr bz) ∧ NdQ w (fun i => ρ i = 0) z bz ∧ w.frozen? ⟨gr, rs.length, none⟩ = false ∧ ρ gr = role ∧ gr < w.heap.size := by
  obtain ⟨bs, h1, h2, h3⟩ := h
  rw [List.length_append, List.length_singleton] at h1
  have hl := h2.1
  rw [List.length_append, List.length_singleton] at hl
  rcases h1.2 with ⟨_, hn⟩ | ⟨g, cap, cur, hv, _, hh, k1, k2, k3, k4⟩
  · omega
  · obtain ⟨bz, hbz⟩ : ∃ bz, bs[rs.length]? = some bz := ⟨_, List.getElem?_eq_getElem (by omega)⟩
    refine ⟨g, cap, bz, hv, k1, by unfold maxLen at k2; omega, ?_, h2.2 rs.length z bz (by simp) hbz, Lib.frozen_of_heap hh _, h3 g (by rw [hv]; rfl), lt_of_heap hh⟩
    rw [Lib.cell_of_heap hh]
    have : (bs.map ptr)[rs.length]? = some (ptr bz) := by rw [List.getElem?_map, hbz]; rfl
    rw [← k4, List.getElem?_take_of_lt (by omega)] at this
    simpa using this
/-- A row's last node is another one. -/
theorem RwAt.setLast {w : World} {ρ : Nat → Nat} {role : Nat} {rs : List Rx} {z r : Rx} {gr c nb : Nat} (h : RwAt w ρ role (.slice (some ⟨gr, 0, none⟩) (rs.length + 1) c) (rs ++ [z])) (hr : NdQ w (fun i => ρ i = 0) r nb) (h0 : role ≠ 0) : RwAt (w.setCell ⟨gr, rs.length, none⟩ (ptr nb)) ρ role (.slice (some ⟨gr, 0, none⟩) (rs.length + 1) c) (rs ++ [r]) := by
  obtain ⟨bs, h1, h2, h3⟩ := h
  have hk := Kb.setCell w ⟨gr, rs.length, none⟩ (ptr nb)
  have hx : ∀ i, i < w.heap.size → i = gr → ρ i ≠ 0 := fun i _ e => by rw [e, h3 gr rfl]; exact h0
  rw [List.length_append, List.length_singleton] at h1
  have hl := h2.1
  rw [List.length_append, List.length_singleton] at hl
  rcases h1.2 with ⟨hv, hn⟩ | ⟨g, cap, cur, hv, k0, hh, k1, k2, k3, k4⟩
  · omega
  · have e1 : gr = g := by injection hv with e; injection e with e; injection e
    have e2 : c = cap := by injection hv
    subst e1; subst e2
    refine ⟨bs.set rs.length nb, ⟨by simp; omega, .inr ⟨gr, c, cur.set! rs.length (ptr nb), by simp, k0, set_heap w gr rs.length cur (ptr nb) 68 (0, 0) hh, by simpa using k1, k2, by simp [k3], ?_⟩⟩, ⟨by simp; omega, fun j x y hx1 hy1 => ?_⟩, h3⟩
    · simp only [Array.set!_eq_setIfInBounds, Array.toList_setIfInBounds, List.length_append, List.length_singleton]
      rw [List.take_set, k4, List.map_set]
    · by_cases hj : j = rs.length
      · subst hj
        have e1 : r = x := by simpa using hx1
        rw [List.getElem?_set_self (by omega)] at hy1
        injection hy1 with e2
        subst e1; subst e2
        exact ndq_kb hr hk hx
      · rw [List.getElem?_set_ne (Ne.symm hj)] at hy1
        have hjl : j < rs.length := by
          have := (List.getElem?_eq_some_iff.1 hx1).1
          simp at this; omega
        rw [List.getElem?_append_left hjl] at hx1
        exact ndq_kb (h2.2 j x y (by rw [List.getElem?_append_left hjl]; exact hx1) hy1) hk hx

theorem PI.step {w0 w : World} {P G cap : Nat} {s : ByteArray} {i : Nat} {d : Int} {gs : List Grp} (H : PI w0 w P G cap s i d gs) (j : Nat) : PI w0 (w.setCell ⟨P, 1, none⟩ (.int .i64 j)) P G cap s j d gs := H.psk (Kb.setCell w ⟨P, 1, none⟩ _) (H.ps.step j)
set_option maxRecDepth 100000 in
set_option maxHeartbeats 2000000 in
theorem repeat_some (w0 w : World) (P G cap : Nat) (s : ByteArray) (i : Nat) (d : Int) (lo : List Grp) (g : Grp) (rs : List Rx) (z : Rx) (hg : g.row = rs ++ [z]) (H : PI w0 w P G cap s i d (lo ++ [g])) (hok : g.Ok) (hlo : lo.length ≤ 100) (hi : i < s.size) (hs : s.size ≤ 1000000) :
    Calls Tryz.prog 112 #[ptr P] w fun e w' => e = .returned (.tuple #[]) ∧ PI w0 w' P G cap s (i + 1) d (lo ++ [g.rep (nx s.data.toList i)]) := by
  have HN := Lib.hid (next_any w P s i _ d false H.ps (by omega) hs)
  have hrep : g.rep (nx s.data.toList i) = ⟨g.ways, rs ++ [repF z (nx s.data.toList i)]⟩ := by unfold Grp.rep; rw [hg]; simp
  rw [hrep]
  generalize nx s.data.toList i = c at HN
  have hz : z.size ≤ 90000 := by have := szs_mem (l := g.row) (r := z) (by rw [hg]; simp); have := hok.szr; omega
  have hrl : rs.length ≤ 900 := by have := hok.row; rw [hg] at this; simp at this; omega
  obtain ⟨j, hj⟩ : ∃ j : Int, j = ((i + 1 : Nat) : Int) := ⟨_, rfl⟩
  have p1 : IntKind.i64.wrap ((i : Int) + 1) = j := by rw [hj, IntWalk.i64_in _ (by omega)]; omega
  have HJ := Lib.hid hj
  have HH := Lib.hid H
  have HG := Lib.hid hg
  obtain ⟨m1, hm1⟩ : ∃ m1, m1 = rs.length := ⟨_, rfl⟩
  obtain ⟨m, hm⟩ : ∃ m, m = m1 + 1 := ⟨_, rfl⟩
  have r1 : IntKind.i64.wrap ((m : Int) - 1) = (m1 : Int) := by rw [hm, IntWalk.i64_in _ (by omega)]; omega
  have r2 : (0 : Int) ≤ (m1 : Int) := by omega
  have r3 : (m1 : Int) < (m : Int) := by omega
  have HM1 := Lib.hid hm1; have HM := Lib.hid hm
  clear H hj hg hrep hm hm1 hok
  go_enter Tryz.func112, Tryz.ntmps112
  go_wp2_with fail
  refine HN.out.mono ?_
  rintro e w1 ⟨rfl, h1, h2⟩
  obtain ⟨_, c1, _, _, _, cf⟩ := ps_cells h1
  have f1 := cf 1
  have H1 := (HH.out.below h2).step (i + 1)
  rw [← HJ.out] at H1
  obtain ⟨_, _, _, _, c4, _⟩ := ps_cells H1.ps
  have HL := Lib.hid (last_ps _ P G (lo ++ [g]).length lo.length cap s (i + 1) d H1.ps (by simp) (by omega))
  obtain ⟨k2, hk2⟩ : ∃ k2, k2 = lo.length * 2 := ⟨_, rfl⟩
  rw [← hk2] at HL
  have HK2 := Lib.hid hk2
  have H1' := Lib.hid H1
  clear h1 h2 H1 cf hk2
  go_wp2_with fail
  refine HL.out.mono ?_
  rintro e w2 ⟨rfl, hb2⟩
  obtain ⟨ρ, vs, X1, hf⟩ := H1'.out.below hb2
  obtain ⟨a, b, ha, hb, ra, rb⟩ := X1.last
  rw [HG.out] at rb
  have rb0 := rb
  obtain ⟨gr, cc, bz, hv, u1, u2, u3, u4, u5, u6, u7⟩ := rb.lastNd
  subst hv
  rw [← HK2.out] at hb rb0
  have q1 := X1.cell hb
  rw [← HM1.out, ← HM.out] at q1 u1 hb
  rw [← HM1.out] at u3 u5
  have HR := Lib.hid (repeated_q (fun i => ρ i = 0) w2 z bz c u4 hz)
  have HX := Lib.hid X1; have HF := Lib.hid hf; have HB := Lib.hid hb; have HRB := Lib.hid rb0; have HU6 := Lib.hid u6
  have HU5 := Lib.hid u5; have HU3 := Lib.hid u3
  clear X1 hf ha hb ra rb rb0 u4 hb2 u6
  go_wp2_with fail
  refine HR.out.mono ?_
  rintro e w3 ⟨nb, rfl, y1, y2⟩
  have hX3 := HX.out.below y2
  have hk3 := Kb.of_below (fun _ => False) y2
  have x3 : w3.cell? ⟨gr, m1, none⟩ = some (ptr bz) := (far_cell (a := ⟨gr, m1, none⟩) hk3 u7 (fun h => h)).1.trans HU3.out
  have x4 : w3.frozen? ⟨gr, m1, none⟩ = false := (far_cell (a := ⟨gr, m1, none⟩) hk3 u7 (fun h => h)).2.trans HU5.out
  have hnq := ndq_fresh HF.out y1
  have hrw := (HRB.out.keep hk3 (fun _ _ h => h.elim)).setLast hnq (by omega)
  rw [← HM1.out, ← HM.out] at hrw
  have hp4 := ((hX3.hole (h := 3 + (k2 + 1))).kb (Kb.setCell w3 ⟨gr, m1, none⟩ (ptr nb)) (fun i _ he => by have he' : i = gr := he; rw [he', HU6.out, HK2.out]) (by omega)).fill HB.out hrw
  have HFin := Lib.hid (show PI w0 (w3.setCell ⟨gr, m1, none⟩ (ptr nb)) P G cap s (i + 1) d (lo ++ [⟨g.ways, rs ++ [repF z c]⟩]) from ⟨ρ, vs, by
    have e1 : (flatG (lo ++ [g])).set (k2 + 1) (rs ++ [repF z c]) = flatG (lo ++ [⟨g.ways, rs ++ [repF z c]⟩]) := by rw [HK2.out]; exact flatG_set_row lo g _
    have e2 : (lo ++ [g]).length = (lo ++ [(⟨g.ways, rs ++ [repF z c]⟩ : Grp)]).length := by simp
    rw [← e1, ← e2]; exact hp4, fun i hi => HF.out i (Nat.le_trans y2.size (by simpa [World.setCell] using hi))⟩)
  clear y1 y2 hX3 hk3 hnq hrw hp4
  go_wp2
  go_end0
  exact ⟨rfl, HFin.out⟩
set_option maxHeartbeats 1000000 in
theorem repeat_none (w : World) (P : Nat) (s : ByteArray) (i : Nat) (ov : Value) (d : Int) (H : PsB w P s i ov d true) (hi : i < s.size) (hs : s.size ≤ 1000000) :
    Calls Tryz.prog 112 #[ptr P] w fun e w' => e = .returned (.tuple #[]) ∧ PsB w' P s (i + 1) ov d true ∧ Kb (fun j => j = P) w w' := by
  have HN := Lib.hid (next_any w P s i _ d true H (by omega) hs)
  generalize nx s.data.toList i = c at HN
  obtain ⟨j, hj⟩ : ∃ j : Int, j = ((i + 1 : Nat) : Int) := ⟨_, rfl⟩
  have p1 : IntKind.i64.wrap ((i : Int) + 1) = j := by rw [hj, IntWalk.i64_in _ (by omega)]; omega
  have HJ := Lib.hid hj
  clear H hj
  go_enter Tryz.func112, Tryz.ntmps112
  go_wp2_with fail
  refine HN.out.mono ?_
  rintro e w1 ⟨rfl, h1, h2⟩
  obtain ⟨_, c1, _, _, c4, cf⟩ := ps_cells h1
  have f1 := cf 1
  have HF := Lib.hid (And.intro (h1.step (i + 1)) ((Kb.of_below (fun j => j = P) h2).trans (Kb.setCell w1 ⟨P, 1, none⟩ (.int .i64 j)) (fun _ _ h => h)))
  rw [← HJ.out] at HF
  clear h1 h2 cf
  go_wp2
  go_end0
  exact ⟨rfl, HF.out.1, HF.out.2⟩
end Go.Proofs.YtejdfpieblkapaaGreatDoor

/- Carried from another seat. -/
namespace Go.Proofs.YtejdfpieblkapaaGreatDoor
open Go.RowKit Go.Shelf


theorem szs_take {l : List Rx} {k : Nat} {r : Rx} (h : l[k]? = some r) : szs (l.take (k + 1)) = szs (l.take k) + r.size := by
  rw [List.take_add_one, h, szs_append]; simp [szs]
theorem szs_take_le (l : List Rx) (k : Nat) : szs (l.take k) ≤ szs l := by
  have := List.take_append_drop k l
  have h2 : szs (l.take k ++ l.drop k) = szs l := by rw [this]
  rw [szs_append] at h2; omega
theorem gsz_take {l : List Grp} {k : Nat} {r : Grp} (h : l[k]? = some r) : gsz (l.take (k + 1)) = gsz (l.take k) + r.size := by
  rw [List.take_add_one, h, gsz_append]; simp [gsz]
theorem gsz_take_le (l : List Grp) (k : Nat) : gsz (l.take k) ≤ gsz l := by
  have := List.take_append_drop k l
  have h2 : gsz (l.take k ++ l.drop k) = gsz l := by rw [this]
  rw [gsz_append] at h2; omega

set_option maxRecDepth 100000 in
set_option maxHeartbeats 2000000 in
theorem size_any (w : World) (G c c1 : Nat) (A B : Option Addr) (m n ca cb : Nat) (asl bsl : List Nat) (ways row : List Rx) (hc1 : c1 = c + 1) (q1 : w.cell? ⟨G, c, none⟩ = some (.slice A m ca)) (q2 : w.cell? ⟨G, c1, none⟩ = some (.slice B n cb)) (hm : m = ways.length) (hn : n = row.length) (ra : RowAt w A asl) (na : NdsAt w ways asl) (rb : RowAt w B bsl) (nb : NdsAt w row bsl) (hca : m ≤ ca) (hcb : n ≤ cb) (hz : szs ways + szs row ≤ 1000000) :
    Calls Tryz.prog 138 #[.pointer (some ⟨G, c, none⟩)] w fun e w' => e = .returned (.int .i64 ((szs ways + szs row : Nat) : Int)) ∧ w' = w := by
  have hmb : m ≤ 1000000 := by have := szs_len ways; omega
  have hnb : n ≤ 1000000 := by have := szs_len row; omega
  have HC1 := Lib.hid hc1; have HM := Lib.hid hm; have HN := Lib.hid hn; have HRA := Lib.hid ra; have HNA := Lib.hid na; have HRB := Lib.hid rb; have HNB := Lib.hid nb; have HZ := Lib.hid hz
  subst hc1
  clear hm hn ra na rb nb hz
  go_enter Tryz.func138, Tryz.ntmps138
  go_wp2_with fail
  go_loopw [3, 13] (fun t a wr => ∃ k S : Nat, k ≤ m ∧ a = .int .i64 k ∧ t = .int .i64 S ∧ S ≤ 1000000 ∧ Hid (S = szs (ways.take k)) ∧ wr = w) (fun _ a _ => m - (intOf a).toNat)
  case atStart => exact ⟨0, 0, Nat.zero_le _, rfl, rfl, by omega, rfl, rfl⟩
  case round =>
    obtain ⟨k, S, hk, rfl, rfl, hS, HS, rfl⟩ := hrel
    by_cases hlt : k < m
    · obtain ⟨r, hr⟩ : ∃ r, ways[k]? = some r := ⟨_, List.getElem?_eq_getElem (by rw [← HM.out]; exact hlt)⟩
      obtain ⟨b, hb⟩ : ∃ b, asl[k]? = some b := ⟨_, List.getElem?_eq_getElem (by rw [← HNA.out.1, ← HM.out]; exact hlt)⟩
      obtain ⟨g, hA, hcell, hgl⟩ := HRA.out.get hb
      subst hA
      obtain ⟨hsz, _, hbl⟩ := nd_size (HNA.out.2 k r b hr hb)
      have e1 := szs_take hr
      have e2 := szs_take_le ways (k + 1)
      have hrz : r.size + S ≤ 1000000 := by have := HZ.out; have := HS.out; omega
      obtain ⟨rz, hrz'⟩ : ∃ rz, rz = r.size := ⟨_, rfl⟩
      rw [← hrz'] at hsz hrz
      have HE := Lib.hid (show S + rz = szs (ways.take (k + 1)) by rw [e1, ← hrz', ← HS.out])
      have hki : (k : Int) < m := by omega
      have hk0 : (0 : Int) ≤ k := by omega
      clear hr hb e1 e2 hrz'
      go_wp2
      go_roundw
      case rel => exact ⟨k + 1, S + rz, by omega, by go_num, by go_num, by omega, HE.out, by first | rfl | trivial⟩
      case measure => simp [intOf]; omega
    · obtain rfl : k = m := by omega
      have hS1 : S = szs ways := by rw [HS.out, HM.out, List.take_length]
      have HS1 := Lib.hid hS1
      clear hS1 HS
      go_wp2_with fail
      go_loopw [3, 29] (fun t a wr2 => ∃ j T : Nat, j ≤ n ∧ a = .int .i64 j ∧ t = .int .i64 T ∧ T ≤ 1000000 ∧ Hid (T = szs ways + szs (row.take j)) ∧ wr2 = wr) (fun _ a _ => n - (intOf a).toNat)
      case atStart => exact ⟨0, S, Nat.zero_le _, rfl, rfl, hS, by rw [HS1.out]; rfl, rfl⟩
      case round =>
        obtain ⟨j, T, hj, rfl, rfl, hT, HT, rfl⟩ := hrel
        by_cases hlt : j < n
        · obtain ⟨r, hr⟩ : ∃ r, row[j]? = some r := ⟨_, List.getElem?_eq_getElem (by rw [← HN.out]; exact hlt)⟩
          obtain ⟨b, hb⟩ : ∃ b, bsl[j]? = some b := ⟨_, List.getElem?_eq_getElem (by rw [← HNB.out.1, ← HN.out]; exact hlt)⟩
          obtain ⟨g, hA, hcell, hgl⟩ := HRB.out.get hb
          subst hA
          obtain ⟨hsz, _, hbl⟩ := nd_size (HNB.out.2 j r b hr hb)
          have e1 := szs_take hr
          have e2 := szs_take_le row (j + 1)
          have hrz : r.size + T ≤ 1000000 := by have := HZ.out; have := HT.out; omega
          obtain ⟨rz, hrz'⟩ : ∃ rz, rz = r.size := ⟨_, rfl⟩
          rw [← hrz'] at hsz hrz
          have HE := Lib.hid (show T + rz = szs ways + szs (row.take (j + 1)) by rw [e1, ← hrz', HT.out]; omega)
          have hki : (j : Int) < n := by omega
          have hk0 : (0 : Int) ≤ j := by omega
          clear hr hb e1 e2 hrz'
          go_wp2
          go_roundw
          case rel => exact ⟨j + 1, T + rz, by omega, by go_num, by go_num, by omega, HE.out, by first | rfl | trivial⟩
          case measure => simp [intOf]; omega
        · obtain rfl : j = n := by omega
          have hT1 : T = szs ways + szs row := by rw [HT.out, HN.out, List.take_length]
          have HT1 := Lib.hid hT1
          clear hT1 HT
          go_wp2
          go_ret
          exact ⟨by rw [HT1.out]; rfl, rfl⟩

theorem flatG_at {gs : List Grp} {k : Nat} {g : Grp} (h : gs[k]? = some g) : (flatG gs)[k * 2]? = some g.ways ∧ (flatG gs)[k * 2 + 1]? = some g.row := by
  have hk : k < gs.length := (List.getElem?_eq_some_iff.1 h).1
  have e : gs = gs.take k ++ (g :: gs.drop (k + 1)) := by
    have h1 : gs.drop k = g :: gs.drop (k + 1) := by
      rw [List.drop_eq_getElem_cons hk]; congr 1
      exact (List.getElem?_eq_some_iff.1 h).2
    rw [← h1, List.take_append_drop]
  have hl : (gs.take k).length = k := by rw [List.length_take]; omega
  have e2 : flatG gs = flatG (gs.take k) ++ (g.ways :: g.row :: flatG (gs.drop (k + 1))) := by
    conv => lhs; rw [e]
    rw [flatG_append]; rfl
  have hl2 := flatG_len (gs.take k)
  rw [hl] at hl2
  rw [e2]
  exact ⟨by rw [List.getElem?_append_right (by omega), hl2, Nat.sub_self]; rfl, by rw [List.getElem?_append_right (by omega), hl2, Nat.add_sub_cancel_left]; rfl⟩
theorem PIx.grp {w0 w : World} {ρ : Nat → Nat} {P G cap : Nat} {s : ByteArray} {i : Nat} {d : Int} {gs : List Grp} {vs : List Value} (H : PIx 0 w0 w ρ P G cap s i d gs.length vs (flatG gs)) {k : Nat} {g : Grp} (h : gs[k]? = some g) :
    ∃ A ca asl B cb bsl, w.cell? ⟨G, k * 2, none⟩ = some (.slice A g.ways.length ca) ∧ w.cell? ⟨G, k * 2 + 1, none⟩ = some (.slice B g.row.length cb) ∧ RowAt w A asl ∧ NdsAt w g.ways asl ∧ RowAt w B bsl ∧ NdsAt w g.row bsl ∧ g.ways.length ≤ ca ∧ g.row.length ≤ cb := by
  have hk : k < gs.length := (List.getElem?_eq_some_iff.1 h).1
  have hl := H.lenv
  obtain ⟨a, ha⟩ : ∃ a, vs[k * 2]? = some a := ⟨_, List.getElem?_eq_getElem (by omega)⟩
  obtain ⟨b, hb⟩ : ∃ b, vs[k * 2 + 1]? = some b := ⟨_, List.getElem?_eq_getElem (by omega)⟩
  obtain ⟨f1, f2⟩ := flatG_at h
  obtain ⟨asl, a1, a2, _⟩ := H.rows _ _ _ ha f1 (by omega)
  obtain ⟨bsl, b1, b2, _⟩ := H.rows _ _ _ hb f2 (by omega)
  obtain ⟨A, ca, rfl, hca, _⟩ := own_form a1
  obtain ⟨B, cb, rfl, hcb, _⟩ := own_form b1
  exact ⟨A, ca, asl, B, cb, bsl, H.cell ha, H.cell hb, own_row a1, a2.nds, own_row b1, b2.nds, hca, hcb⟩

theorem long_ps {w : World} {P : Nat} {s : ByteArray} {i : Nat} {ov : Value} {d : Int} {l : Bool} (h : PsB w P s i ov d l) : PsB ((w.setCell ⟨P, 4, none⟩ (.bool true)).setCell ⟨P, 2, none⟩ (.slice none 0 0)) P s i (.slice none 0 0) d true ∧ Kb (fun j => j = P) w ((w.setCell ⟨P, 4, none⟩ (.bool true)).setCell ⟨P, 2, none⟩ (.slice none 0 0)) := by
  refine ⟨?_, (Kb.setCell w ⟨P, 4, none⟩ _).trans (Kb.setCell _ ⟨P, 2, none⟩ _) (fun _ _ h => h)⟩
  unfold PsB at h ⊢
  have h1 := set_heap w P 4 _ (.bool true) _ _ h
  rw [set_heap _ P 2 _ _ _ _ h1]; rfl

/-- What weigh leaves. -/
def WgTo (P : Nat) (s : ByteArray) (i d Z : Nat) (w : World) (e : Ending) (w' : World) : Prop := e = .returned (.tuple #[]) ∧ ((400 < Z ∨ 50 < d) → PsB w' P s i (.slice none 0 0) d true ∧ Kb (fun j => j = P) w w') ∧ (¬ (400 < Z ∨ 50 < d) → w' = w)
set_option maxRecDepth 100000 in
set_option maxHeartbeats 2000000 in
theorem weigh_some (w0 w : World) (P G cap : Nat) (s : ByteArray) (i : Nat) (d : Nat) (gs : List Grp) (H : PI w0 w P G cap s i d gs) (hz : gsz gs ≤ 100000) (hlen : gs.length ≤ 110) (hd : d ≤ 1000000) :
    Calls Tryz.prog 114 #[ptr P] w (WgTo P s i d (gsz gs) w) := by
  obtain ⟨ρ, vs, X, _⟩ := H
  have HX := Lib.hid X
  obtain ⟨_, _, c2, c3, c4, cf⟩ := ps_cells X.ps
  have f2 := cf 2; have f4 := cf 4
  have HPS := Lib.hid (long_ps X.ps)
  have hcap : gs.length ≤ cap := by obtain ⟨_, _, _, h, _⟩ := X.blk; exact h
  obtain ⟨n, hn⟩ : ∃ n, n = gs.length := ⟨_, rfl⟩
  rw [← hn] at c2 hcap hlen
  have HN := Lib.hid hn
  obtain ⟨Z, hZ⟩ : ∃ Z, Z = gsz gs := ⟨_, rfl⟩
  rw [← hZ] at hz ⊢
  have HZ := Lib.hid hZ
  clear X cf hn hZ
  go_enter Tryz.func114, Tryz.ntmps114
  go_wp2_with fail
  go_loopw [2, 9] (fun t a wr => ∃ k S : Nat, k ≤ n ∧ a = .int .i64 k ∧ t = .int .i64 S ∧ S ≤ 100000 ∧ Hid (S = gsz (gs.take k)) ∧ wr = w) (fun _ a _ => n - (intOf a).toNat)
  case atStart => exact ⟨0, 0, Nat.zero_le _, rfl, rfl, by omega, rfl, rfl⟩
  case round =>
    obtain ⟨k, S, hk, rfl, rfl, hS, HS, rfl⟩ := hrel
    by_cases hlt : k < n
    · obtain ⟨g, hg⟩ : ∃ g, gs[k]? = some g := ⟨_, List.getElem?_eq_getElem (by rw [← HN.out]; exact hlt)⟩
      obtain ⟨A, ca, asl, B, cb, bsl, a1, a2, a3, a4, a5, a6, a7, a8⟩ := HX.out.grp hg
      have e1 := gsz_take hg
      have e2 := gsz_take_le gs (k + 1)
      have e3 : g.size = szs g.ways + szs g.row := rfl
      have hgz : S + g.size ≤ 100000 := by have := HZ.out; have := HS.out; omega
      have HSZ := Lib.hid (size_any wr G (k * 2) (k * 2 + 1) A B _ _ ca cb asl bsl g.ways g.row rfl a1 a2 rfl rfl a3 a4 a5 a6 a7 a8 (by omega))
      rw [← e3] at HSZ
      obtain ⟨gz, hgz'⟩ : ∃ gz, gz = g.size := ⟨_, rfl⟩
      rw [← hgz'] at HSZ hgz
      have HE := Lib.hid (show S + gz = gsz (gs.take (k + 1)) by rw [e1, ← hgz', ← HS.out])
      have hki : (k : Int) < n := by omega
      have hk0 : (0 : Int) ≤ k := by omega
      clear hg a1 a2 a3 a4 a5 a6 a7 a8 e1 e2 e3 hgz'
      go_wp2_with fail
      refine HSZ.out.mono ?_
      rintro e w2 ⟨rfl, rfl⟩
      go_wp2
      go_roundw
      case rel => exact ⟨k + 1, S + gz, by omega, by go_num, by go_num, by omega, HE.out, by first | rfl | trivial⟩
      case measure => simp [intOf]; omega
    · obtain rfl : k = n := by omega
      have hS1 : S = Z := by rw [HS.out, HN.out, List.take_length, HZ.out]
      subst hS1
      clear HS
      by_cases h1 : 400 < S
      · have h1i : (400 : Int) < (S : Int) := by omega
        go_wp2
        go_end0
        exact ⟨rfl, fun _ => HPS.out, fun h => absurd (.inl h1) h⟩
      · have h1i : ¬ (400 : Int) < (S : Int) := by omega
        by_cases h2 : 50 < d
        · have h2i : (50 : Int) < (d : Int) := by omega
          go_wp2
          go_end0
          exact ⟨rfl, fun _ => HPS.out, fun h => absurd (.inr h2) h⟩
        · have h2i : ¬ (50 : Int) < (d : Int) := by omega
          go_wp2
          go_end0
          exact ⟨rfl, fun h => by omega, fun _ => rfl⟩
set_option maxRecDepth 100000 in
set_option maxHeartbeats 2000000 in
theorem weigh_none (w : World) (P : Nat) (s : ByteArray) (i : Nat) (d : Nat) (H : PsB w P s i (.slice none 0 0) d true) (hd : d ≤ 1000000) :
    Calls Tryz.prog 114 #[ptr P] w fun e w' => e = .returned (.tuple #[]) ∧ PsB w' P s i (.slice none 0 0) d true ∧ Kb (fun j => j = P) w w' := by
  obtain ⟨_, _, c2, c3, c4, cf⟩ := ps_cells H
  have f2 := cf 2; have f4 := cf 4
  have HPS := Lib.hid (long_ps H)
  have HH := Lib.hid H
  clear H cf
  go_enter Tryz.func114, Tryz.ntmps114
  go_wp2_with fail
  go_loopw [2, 9] (fun t a wr => a = .int .i64 0 ∧ t = .int .i64 0 ∧ wr = w) (fun _ _ _ => 0)
  case atStart => exact ⟨rfl, rfl, rfl⟩
  case round =>
    obtain ⟨rfl, rfl, rfl⟩ := hrel
    by_cases h2 : 50 < d
    · have h2i : (50 : Int) < (d : Int) := by omega
      go_wp2
      go_end0
      exact ⟨rfl, HPS.out⟩
    · have h2i : ¬ (50 : Int) < (d : Int) := by omega
      go_wp2
      go_end0
      exact ⟨rfl, HH.out, Kb.refl _ _⟩
end Go.Proofs.YtejdfpieblkapaaGreatDoor
