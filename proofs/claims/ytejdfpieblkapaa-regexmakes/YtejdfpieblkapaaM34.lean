/- The parser's calls on groups: last, put. -/
import Derived.Test.YtejdfpieblkapaaM33
namespace Go.Proofs.Ytejdfpieblkapaa
open Go.RowKit Go.Shelf

theorem ps_cells {w : World} {P : Nat} {s : ByteArray} {i : Nat} {ov : Value} {d : Int} {l : Bool} (h : PsB w P s i ov d l) : w.cell? ⟨P, 0, none⟩ = some (.string s) ∧ w.cell? ⟨P, 1, none⟩ = some (.int .i64 i) ∧ w.cell? ⟨P, 2, none⟩ = some ov ∧ w.cell? ⟨P, 3, none⟩ = some (.int .i64 d) ∧ w.cell? ⟨P, 4, none⟩ = some (.bool l) ∧ ∀ c, w.frozen? ⟨P, c, none⟩ = false := by
  unfold PsB at h
  exact ⟨by rw [Lib.cell_of_heap h]; rfl, by rw [Lib.cell_of_heap h]; rfl, by rw [Lib.cell_of_heap h]; rfl, by rw [Lib.cell_of_heap h]; rfl, by rw [Lib.cell_of_heap h]; rfl, fun c => Lib.frozen_of_heap h c⟩

set_option maxHeartbeats 1000000 in
theorem last_ps (w : World) (P G n k cap : Nat) (s : ByteArray) (i : Nat) (d : Int) (h : PsB w P s i (.slice (some ⟨G, 0, none⟩) n cap) d false) (hn : n = k + 1) (hk : k ≤ 1000) :
    Calls Try.prog 23 #[ptr P] w fun e w' => e = .returned (.pointer (some ⟨G, k * 2, none⟩)) ∧ Below w.heap.size w w' := by
  obtain ⟨_, _, c2, _, _, _⟩ := ps_cells h
  have p1 : IntKind.i64.wrap ((n : Int) - 1) = (k : Int) := by rw [IntWalk.i64_in _ (by omega)]; omega
  have p2 : (k : Int) < (n : Int) := by omega
  have p3 : (0 : Int) ≤ (k : Int) := by omega
  clear hn h
  go_enter Try.func23, Try.ntmps23
  go_wp2_with fail
  go_quiet (fail)
  go_wp2
  go_ret
  exact ⟨rfl, below_drewN _ _ _⟩

theorem far_cell {ex : Nat → Prop} {w w6 : World} {a : Addr} (hk : Kb ex w w6) (hl : a.block < w.heap.size) (hne : ¬ ex a.block) : w6.cell? a = w.cell? a ∧ w6.frozen? a = w.frozen? a := ⟨World.cell?_of_block (hk.block _ hl hne), World.frozen?_of_block (hk.block _ hl hne)⟩
theorem ndq_kb {w w' : World} {ρ : Nat → Nat} {ex : Nat → Prop} {r : Rx} {b : Nat} (h : NdQ w (fun i => ρ i = 0) r b) (hk : Kb ex w w') (hx : ∀ i, i < w.heap.size → ex i → ρ i ≠ 0) : NdQ w' (fun i => ρ i = 0) r b := by
  have h4 := h.mono (Q' := fun i => ρ i = 0 ∧ i < w.heap.size) (fun i hi hq => ⟨hq, hi⟩)
  have h5 := h4.keep (w' := w') (KeepQ.kb hk (fun i hi he => hx i hi.2 he hi.1))
  exact h5.mono (fun i _ hq => hq.1)
/-- The parser's state, and a node that isn't in it yet. -/
def PIn (w0 w : World) (P G cap : Nat) (s : ByteArray) (i : Nat) (d : Int) (gs : List Grp) (r : Rx) (nb : Nat) : Prop :=
  ∃ ρ vs, PIx 0 w0 w ρ P G cap s i d gs.length vs (flatG gs) ∧ (∀ i, w.heap.size ≤ i → ρ i = 0) ∧ NdQ w (fun i => ρ i = 0) r nb
theorem ndq_fresh {w w' : World} {ρ : Nat → Nat} {r : Rx} {nb : Nat} (hf : ∀ i, w.heap.size ≤ i → ρ i = 0) (h : NdQ w' (fun i => ρ i = 0 ∨ w.heap.size ≤ i) r nb) : NdQ w' (fun i => ρ i = 0) r nb := h.mono (fun i _ hi => hi.elim id (hf i))
/-- A node is put behind a row. -/
theorem PIx.app {w0 w w6 : World} {ρ : Nat → Nat} {P G cap : Nat} {s : ByteArray} {i : Nat} {d : Int} {n : Nat} {vs : List Value} {R : List (List Rx)} (H : PIx 0 w0 w ρ P G cap s i d n vs R) (hf : ∀ i, w.heap.size ≤ i → ρ i = 0)
    {c : Nat} {b v' : Value} {rs : List Rx} {bs : List Nat} {gg : Nat} {r : Rx} {nb : Nat} (hb : vs[c]? = some b) (hbs : NdsQ w (fun i => ρ i = 0) rs bs) (hbr : ∀ g, b.ownBlock = some g → ρ g = 3 + c) (_hbo : w.ownsRow 0 23 1 b rs.length (bs.map ptr)) (hnb : NdQ w (fun i => ρ i = 0) r nb)
    (hk : Kb (fun i => some i = b.ownBlock) w w6) (ho : w6.ownsRow 0 23 1 v' (rs.length + 1) (bs.map ptr ++ [ptr nb])) (hv : v'.ownBlock = some gg) (hg : b.ownBlock = some gg ∨ w.heap.size ≤ gg) :
    ∃ ρ', PIx 0 w0 (w6.setCell ⟨G, c, none⟩ v') ρ' P G cap s i d n (vs.set c v') (R.set c (rs ++ [r])) ∧ ∀ i, (w6.setCell ⟨G, c, none⟩ v').heap.size ≤ i → ρ' i = 0 := by
  have hc : c < vs.length := (List.getElem?_eq_some_iff.1 hb).1
  obtain ⟨ρ', hρ'⟩ : ∃ ρ' : Nat → Nat, ρ' = fun i => if i = gg then 3 + c else ρ i := ⟨_, rfl⟩
  have hgg : ρ' gg = 3 + c := by rw [hρ']; simp
  have hne : ∀ i, i ≠ gg → ρ' i = ρ i := fun i hi => by rw [hρ']; simp [hi]
  have heq : ∀ i, i < w.heap.size → ρ' i = ρ i := fun i hi => by
    by_cases hi' : i = gg
    · subst hi'
      rcases hg with hg | hg
      · rw [hgg, hbr _ hg]
      · omega
    · exact hne i hi'
  clear hρ'
  have hlow : ∀ i, ρ' i ≠ 0 → w0.heap.size ≤ i := fun i hi => by
    rcases Nat.lt_or_ge i w.heap.size with h | h
    · exact H.low i (by rw [← heq i h]; exact hi)
    · exact Nat.le_trans H.bel.size h
  have hx : ∀ i, i < w.heap.size → some i = b.ownBlock → ρ' i = 3 + c := fun i hi he => by rw [heq i hi]; exact hbr i he.symm
  have H2 := ((H.rho heq hlow).hole (h := 3 + c)).kb hk hx (by omega)
  have hnd : ∀ {r : Rx} {b : Nat}, NdQ w (fun i => ρ i = 0) r b → NdQ w6 (fun i => ρ' i = 0) r b := fun h => ndq_kb (h.mono (fun i hi hq => (heq i hi).trans hq)) hk (fun i hi he => by rw [hx i hi he]; omega)
  have hr : RwAt w6 ρ' (3 + c) v' (rs ++ [r]) := by
    refine ⟨bs ++ [nb], by rw [List.length_append, List.map_append]; exact ho, ⟨by simp [hbs.1], fun j x y h1 h2 => ?_⟩, fun g hg' => by rw [hv] at hg'; injection hg' with e; rw [← e]; exact hgg⟩
    have hl := hbs.1
    rcases Nat.lt_or_ge j bs.length with hj | hj
    · rw [List.getElem?_append_left (by omega)] at h1
      rw [List.getElem?_append_left hj] at h2
      exact hnd (hbs.2 j x y h1 h2)
    · have hj2 : j = bs.length := by
        have := (List.getElem?_eq_some_iff.1 h2).1
        simp at this; omega
      subst hj2
      rw [← hl] at h1
      have e1 : r = x := by simpa using h1
      have e2 : nb = y := by simpa using h2
      subst e1; subst e2
      exact hnd hnb
  refine ⟨ρ', H2.set hc hr, fun i hi => ?_⟩
  have hz : (w6.setCell ⟨G, c, none⟩ v').heap.size = w6.heap.size := by simp [World.setCell]
  rw [hz] at hi
  have hlt := own_lt ho hv
  have := hk.size
  rw [hne i (by omega)]
  exact hf i (by omega)

/-- A group's slices. -/
theorem PIx.last {w0 w : World} {ρ : Nat → Nat} {P G cap : Nat} {s : ByteArray} {i : Nat} {d : Int} {lo : List Grp} {g : Grp} {vs : List Value} (H : PIx 0 w0 w ρ P G cap s i d (lo ++ [g]).length vs (flatG (lo ++ [g]))) :
    ∃ a b : Value, vs[lo.length * 2]? = some a ∧ vs[lo.length * 2 + 1]? = some b ∧ RwAt w ρ (3 + lo.length * 2) a g.ways ∧ RwAt w ρ (3 + (lo.length * 2 + 1)) b g.row := by
  have hl := H.lenv
  rw [List.length_append, List.length_singleton] at hl
  obtain ⟨a, ha⟩ : ∃ a, vs[lo.length * 2]? = some a := ⟨_, List.getElem?_eq_getElem (by omega)⟩
  obtain ⟨b, hb⟩ : ∃ b, vs[lo.length * 2 + 1]? = some b := ⟨_, List.getElem?_eq_getElem (by omega)⟩
  exact ⟨a, b, ha, hb, H.rows _ _ _ ha (flatG_ways lo g) (by omega), H.rows _ _ _ hb (flatG_row lo g) (by omega)⟩

set_option maxRecDepth 100000 in
set_option maxHeartbeats 2000000 in
theorem put_any (w0 w : World) (P G cap : Nat) (s : ByteArray) (i : Nat) (d : Int) (lo : List Grp) (g : Grp) (r : Rx) (nb : Nat) (H : PIn w0 w P G cap s i d (lo ++ [g]) r nb) (hlo : lo.length ≤ 100) (hrow : g.row.length ≤ 1000) :
    Calls Try.prog 55 #[ptr P, ptr nb] w fun e w' => e = .returned (.tuple #[]) ∧ PI w0 w' P G cap s i d (lo ++ [g.put r]) := by
  obtain ⟨ρ, vs, H1, hf, hnb⟩ := H
  obtain ⟨a, b, ha, hb, ra, rb⟩ := H1.last
  obtain ⟨bs, hbo, hbs, hbr⟩ := rb
  obtain ⟨A, c, hbv, hcap, hcap2⟩ := own_form hbo
  subst hbv
  obtain ⟨_, _, _, _, c4, _⟩ := ps_cells H1.ps
  have hlen : (lo ++ [g]).length = lo.length + 1 := by simp
  have HL := Lib.hid (fun (w' : World) (hp : PsB w' P s i (.slice (some ⟨G, 0, none⟩) (lo ++ [g]).length cap) d false) => last_ps w' P G (lo ++ [g]).length lo.length cap s i d hp hlen (by omega))
  obtain ⟨k2, hk2⟩ : ∃ k2, k2 = lo.length * 2 := ⟨_, rfl⟩
  rw [← hk2] at HL hb hbr
  have HK2 := Lib.hid hk2
  obtain ⟨i0, hi0, hz0, hz1, hz2⟩ := info_parts Try.info23
  have HI := Lib.hid hi0; have HZ0 := Lib.hid hz0; have HZ1 := Lib.hid hz1; have HZ2 := Lib.hid hz2
  clear hi0 hz0 hz1 hz2
  obtain ⟨m, hm⟩ : ∃ m, m = g.row.length := ⟨_, rfl⟩
  rw [← hm] at hbo hcap hrow hb hbr
  have HM := Lib.hid hm
  have HX := Lib.hid H1; have HF := Lib.hid hf; have HN := Lib.hid hnb; have HB := Lib.hid hb; have HBO := Lib.hid hbo; have HBS := Lib.hid hbs; have HBR := Lib.hid hbr
  clear H1 hf hnb ha hb ra hbo hbs hbr hlen hk2 hm
  go_enter Try.func55, Try.ntmps55
  go_wp2_with fail
  refine (HL.out w HX.out.ps).mono ?_
  rintro e w1 ⟨rfl, hb1⟩
  have HX1 := Lib.hid (HX.out.below hb1)
  have HB1 := Lib.hid hb1
  clear hb1
  go_wp2_with fail
  refine (HL.out w1 HX1.out.ps).mono ?_
  rintro e w2 ⟨rfl, hb2⟩
  have HB2 := Lib.hid (below_tr HB1.out hb2 HB1.out.size)
  have HX2 := Lib.hid (HX1.out.below hb2)
  clear hb2
  have q1 := HX2.out.cell HB.out
  have hk2' := Kb.of_below (fun _ => False) HB2.out
  have HO2 := Lib.hid (own_kb HBO.out hk2' (fun _ _ h => h))
  have HN2 := Lib.hid (ndq_kb HN.out hk2' (fun _ _ h => h.elim))
  have HBS2 := Lib.hid (show NdsQ w2 (fun i => ρ i = 0) g.row bs from ⟨HBS.out.1, fun j x y h1 h2 => ndq_kb (HBS.out.2 j x y h1 h2) hk2' (fun _ _ h => h.elim)⟩)
  clear hk2'
  go_wp2_with (at_builtin; refine wpList_append_lies _ rfl _ _ 47 rfl 0 23 i0 _ 1 8 Try.underlying47 HI.out HZ0.out HZ1.out HZ2.out rfl (by omega) (.slice A m c) m _ rfl (HO2.out.alloc _) ⟨w2.heap.size, 0, none⟩ 1 1 [ptr nb] rfl rfl (World.news_of_block (cs := #[ptr nb]) (t := 23) (fr := (0, 0)) (heap_alloc_new w2 _)) (by simp [Value.oneCell']) (by omega) (by unfold maxLen; omega) (by omega) (by simp) (w2.heap.size + 1) (by simp) ?_)
  intro gg cap6 w6 hown6 hgrow6 hat6 hlt6
  have hg6 := grown_kb hgrow6
  have hne : ¬ some G = (Value.slice A m c).ownBlock := fun he => by
    have h1 := HBR.out G he.symm
    rw [HX.out.rG] at h1; omega
  obtain ⟨hfc, hff⟩ := far_cell (a := ⟨G, k2 + 1, none⟩) hg6 HX2.out.ltG hne
  rw [HX2.out.cell HB.out] at hfc
  rw [HX2.out.frozen] at hff
  obtain ⟨ρ', hp, hf'⟩ := HX2.out.app (fun i hi => HF.out i (Nat.le_trans HB2.out.size hi)) HB.out HBS2.out HBR.out (by rw [← HM.out]; exact HO2.out) HN2.out hg6 (by rw [← HM.out]; exact hown6) rfl (hat6.imp id (fun h => by omega))
  have HFin := Lib.hid (show PI w0 (w6.setCell ⟨G, k2 + 1, none⟩ (.slice (some ⟨gg, 0, none⟩) (m + 1) cap6)) P G cap s i d (lo ++ [g.put r]) from ⟨ρ', _, by
    have e1 : (flatG (lo ++ [g])).set (k2 + 1) (g.row ++ [r]) = flatG (lo ++ [g.put r]) := by rw [HK2.out]; exact flatG_set_row lo g _
    have e2 : (lo ++ [g]).length = (lo ++ [g.put r]).length := by simp
    rw [← e1, ← e2]; exact hp, hf'⟩)
  clear hown6 hgrow6 hat6 hlt6 hg6 hp hf'
  go_wp2
  go_end0
  exact ⟨rfl, HFin.out⟩
end Go.Proofs.Ytejdfpieblkapaa
