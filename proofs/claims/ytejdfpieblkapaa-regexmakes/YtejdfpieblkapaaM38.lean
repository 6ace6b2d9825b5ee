/- The parser's calls: repeat. -/
import Derived.Test.YtejdfpieblkapaaM37
namespace Go.Proofs.Ytejdfpieblkapaa
open Go.RowKit Go.Shelf

/-- A row's last node. -/
theorem RwAt.lastNd {w : World} {ρ : Nat → Nat} {role : Nat} {v : Value} {rs : List Rx} {z : Rx} (h : RwAt w ρ role v (rs ++ [z])) : ∃ gr c bz, v = .slice (some ⟨gr, 0, none⟩) (rs.length + 1) c ∧ rs.length + 1 ≤ c ∧ c ≤ 9223372036854775807 ∧ w.cell? ⟨gr, rs.length, none⟩ = some (ptr bz) ∧ NdQ w (fun i => ρ i = 0) z bz ∧ w.frozen? ⟨gr, rs.length, none⟩ = false ∧ ρ gr = role ∧ gr < w.heap.size := by
  obtain ⟨bs, h1, h2, h3⟩ := h
  rw [List.length_append, List.length_singleton] at h1
  have hl := h2.1
  rw [List.length_append, List.length_singleton] at hl
  rcases h1.2 with ⟨_, hn⟩ | ⟨g, cap, cur, hv, _, hh, k1, k2, k3, k4⟩
  · omega
  · obtain ⟨bz, hbz⟩ : ∃ bz, bs[rs.length]? = some bz := ⟨_, List.getElem?_eq_getElem (by omega)⟩
    refine ⟨g, cap, bz, hv, k1, by unfold maxLen at k2; omega, ?_, h2.2 rs.length z bz (by simp) hbz, Lib.frozen_of_heap hh _, h3 g (by rw [hv]; rfl), lt_of_heap hh⟩
    rw [Lib.cell_of_heap hh]
    have : (bs.map ptr)[rs.length]? = some (ptr bz) := by rw [List.getElem?_map, hbz]; rfl
    rw [← k4, List.getElem?_take_of_lt (by omega)] at this
    simpa using this
/-- A row's last node is another one. -/
theorem RwAt.setLast {w : World} {ρ : Nat → Nat} {role : Nat} {rs : List Rx} {z r : Rx} {gr c nb : Nat} (h : RwAt w ρ role (.slice (some ⟨gr, 0, none⟩) (rs.length + 1) c) (rs ++ [z])) (hr : NdQ w (fun i => ρ i = 0) r nb) (h0 : role ≠ 0) : RwAt (w.setCell ⟨gr, rs.length, none⟩ (ptr nb)) ρ role (.slice (some ⟨gr, 0, none⟩) (rs.length + 1) c) (rs ++ [r]) := by
  obtain ⟨bs, h1, h2, h3⟩ := h
  have hk := Kb.setCell w ⟨gr, rs.length, none⟩ (ptr nb)
  have hx : ∀ i, i < w.heap.size → i = gr → ρ i ≠ 0 := fun i _ e => by rw [e, h3 gr rfl]; exact h0
  rw [List.length_append, List.length_singleton] at h1
  have hl := h2.1
  rw [List.length_append, List.length_singleton] at hl
  rcases h1.2 with ⟨hv, hn⟩ | ⟨g, cap, cur, hv, k0, hh, k1, k2, k3, k4⟩
  · omega
  · have e1 : gr = g := by injection hv with e; injection e with e; injection e
    have e2 : c = cap := by injection hv
    subst e1; subst e2
    refine ⟨bs.set rs.length nb, ⟨by simp; omega, .inr ⟨gr, c, cur.set! rs.length (ptr nb), by simp, k0, set_heap w gr rs.length cur (ptr nb) 23 (0, 0) hh, by simpa using k1, k2, by simp [k3], ?_⟩⟩, ⟨by simp; omega, fun j x y hx1 hy1 => ?_⟩, h3⟩
    · simp only [Array.set!_eq_setIfInBounds, Array.toList_setIfInBounds, List.length_append, List.length_singleton]
      rw [List.take_set, k4, List.map_set]
    · by_cases hj : j = rs.length
      · subst hj
        have e1 : r = x := by simpa using hx1
        rw [List.getElem?_set_self (by omega)] at hy1
        injection hy1 with e2
        subst e1; subst e2
        exact ndq_kb hr hk hx
      · rw [List.getElem?_set_ne (Ne.symm hj)] at hy1
        have hjl : j < rs.length := by
          have := (List.getElem?_eq_some_iff.1 hx1).1
          simp at this; omega
        rw [List.getElem?_append_left hjl] at hx1
        exact ndq_kb (h2.2 j x y (by rw [List.getElem?_append_left hjl]; exact hx1) hy1) hk hx

theorem PI.step {w0 w : World} {P G cap : Nat} {s : ByteArray} {i : Nat} {d : Int} {gs : List Grp} (H : PI w0 w P G cap s i d gs) (j : Nat) : PI w0 (w.setCell ⟨P, 1, none⟩ (.int .i64 j)) P G cap s j d gs := H.psk (Kb.setCell w ⟨P, 1, none⟩ _) (H.ps.step j)
set_option maxRecDepth 100000 in
set_option maxHeartbeats 2000000 in
theorem repeat_some (w0 w : World) (P G cap : Nat) (s : ByteArray) (i : Nat) (d : Int) (lo : List Grp) (g : Grp) (rs : List Rx) (z : Rx) (hg : g.row = rs ++ [z]) (H : PI w0 w P G cap s i d (lo ++ [g])) (hok : g.Ok) (hlo : lo.length ≤ 100) (hi : i < s.size) (hs : s.size ≤ 1000000) :
    Calls Try.prog 43 #[ptr P] w fun e w' => e = .returned (.tuple #[]) ∧ PI w0 w' P G cap s (i + 1) d (lo ++ [g.rep (nx s.data.toList i)]) := by
  have HN := Lib.hid (next_any w P s i _ d false H.ps (by omega) hs)
  have hrep : g.rep (nx s.data.toList i) = ⟨g.ways, rs ++ [repF z (nx s.data.toList i)]⟩ := by unfold Grp.rep; rw [hg]; simp
  rw [hrep]
  generalize nx s.data.toList i = c at HN
  have hz : z.size ≤ 90000 := by have := szs_mem (l := g.row) (r := z) (by rw [hg]; simp); have := hok.szr; omega
  have hrl : rs.length ≤ 900 := by have := hok.row; rw [hg] at this; simp at this; omega
  obtain ⟨j, hj⟩ : ∃ j : Int, j = ((i + 1 : Nat) : Int) := ⟨_, rfl⟩
  have p1 : IntKind.i64.wrap ((i : Int) + 1) = j := by rw [hj, IntWalk.i64_in _ (by omega)]; omega
  have HJ := Lib.hid hj
  have HH := Lib.hid H
  have HG := Lib.hid hg
  obtain ⟨m1, hm1⟩ : ∃ m1, m1 = rs.length := ⟨_, rfl⟩
  obtain ⟨m, hm⟩ : ∃ m, m = m1 + 1 := ⟨_, rfl⟩
  have r1 : IntKind.i64.wrap ((m : Int) - 1) = (m1 : Int) := by rw [hm, IntWalk.i64_in _ (by omega)]; omega
  have r2 : (0 : Int) ≤ (m1 : Int) := by omega
  have r3 : (m1 : Int) < (m : Int) := by omega
  have HM1 := Lib.hid hm1; have HM := Lib.hid hm
  clear H hj hg hrep hm hm1 hok
  go_enter Try.func43, Try.ntmps43
  go_wp2_with fail
  refine HN.out.mono ?_
  rintro e w1 ⟨rfl, h1, h2⟩
  obtain ⟨_, c1, _, _, _, cf⟩ := ps_cells h1
  have f1 := cf 1
  have H1 := (HH.out.below h2).step (i + 1)
  rw [← HJ.out] at H1
  obtain ⟨_, _, _, _, c4, _⟩ := ps_cells H1.ps
  have HL := Lib.hid (last_ps _ P G (lo ++ [g]).length lo.length cap s (i + 1) d H1.ps (by simp) (by omega))
  obtain ⟨k2, hk2⟩ : ∃ k2, k2 = lo.length * 2 := ⟨_, rfl⟩
  rw [← hk2] at HL
  have HK2 := Lib.hid hk2
  have H1' := Lib.hid H1
  clear h1 h2 H1 cf hk2
  go_wp2_with fail
  refine HL.out.mono ?_
  rintro e w2 ⟨rfl, hb2⟩
  obtain ⟨ρ, vs, X1, hf⟩ := H1'.out.below hb2
  obtain ⟨a, b, ha, hb, ra, rb⟩ := X1.last
  rw [HG.out] at rb
  have rb0 := rb
  obtain ⟨gr, cc, bz, hv, u1, u2, u3, u4, u5, u6, u7⟩ := rb.lastNd
  subst hv
  rw [← HK2.out] at hb rb0
  have q1 := X1.cell hb
  rw [← HM1.out, ← HM.out] at q1 u1 hb
  rw [← HM1.out] at u3 u5
  have HR := Lib.hid (repeated_q (fun i => ρ i = 0) w2 z bz c u4 hz)
  have HX := Lib.hid X1; have HF := Lib.hid hf; have HB := Lib.hid hb; have HRB := Lib.hid rb0; have HU6 := Lib.hid u6
  have HU5 := Lib.hid u5; have HU3 := Lib.hid u3
  clear X1 hf ha hb ra rb rb0 u4 hb2 u6
  go_wp2_with fail
  refine HR.out.mono ?_
  rintro e w3 ⟨nb, rfl, y1, y2⟩
  have hX3 := HX.out.below y2
  have hk3 := Kb.of_below (fun _ => False) y2
  have x3 : w3.cell? ⟨gr, m1, none⟩ = some (ptr bz) := (far_cell (a := ⟨gr, m1, none⟩) hk3 u7 (fun h => h)).1.trans HU3.out
  have x4 : w3.frozen? ⟨gr, m1, none⟩ = false := (far_cell (a := ⟨gr, m1, none⟩) hk3 u7 (fun h => h)).2.trans HU5.out
  have hnq := ndq_fresh HF.out y1
  have hrw := (HRB.out.keep hk3 (fun _ _ h => h.elim)).setLast hnq (by omega)
  rw [← HM1.out, ← HM.out] at hrw
  have hp4 := ((hX3.hole (h := 3 + (k2 + 1))).kb (Kb.setCell w3 ⟨gr, m1, none⟩ (ptr nb)) (fun i _ he => by have he' : i = gr := he; rw [he', HU6.out, HK2.out]) (by omega)).fill HB.out hrw
  have HFin := Lib.hid (show PI w0 (w3.setCell ⟨gr, m1, none⟩ (ptr nb)) P G cap s (i + 1) d (lo ++ [⟨g.ways, rs ++ [repF z c]⟩]) from ⟨ρ, vs, by
    have e1 : (flatG (lo ++ [g])).set (k2 + 1) (rs ++ [repF z c]) = flatG (lo ++ [⟨g.ways, rs ++ [repF z c]⟩]) := by rw [HK2.out]; exact flatG_set_row lo g _
    have e2 : (lo ++ [g]).length = (lo ++ [(⟨g.ways, rs ++ [repF z c]⟩ : Grp)]).length := by simp
    rw [← e1, ← e2]; exact hp4, fun i hi => HF.out i (Nat.le_trans y2.size (by simpa [World.setCell] using hi))⟩)
  clear y1 y2 hX3 hk3 hnq hrw hp4
  go_wp2
  go_end0
  exact ⟨rfl, HFin.out⟩
set_option maxHeartbeats 1000000 in
theorem repeat_none (w : World) (P : Nat) (s : ByteArray) (i : Nat) (ov : Value) (d : Int) (H : PsB w P s i ov d true) (hi : i < s.size) (hs : s.size ≤ 1000000) :
    Calls Try.prog 43 #[ptr P] w fun e w' => e = .returned (.tuple #[]) ∧ PsB w' P s (i + 1) ov d true ∧ Kb (fun j => j = P) w w' := by
  have HN := Lib.hid (next_any w P s i _ d true H (by omega) hs)
  generalize nx s.data.toList i = c at HN
  obtain ⟨j, hj⟩ : ∃ j : Int, j = ((i + 1 : Nat) : Int) := ⟨_, rfl⟩
  have p1 : IntKind.i64.wrap ((i : Int) + 1) = j := by rw [hj, IntWalk.i64_in _ (by omega)]; omega
  have HJ := Lib.hid hj
  clear H hj
  go_enter Try.func43, Try.ntmps43
  go_wp2_with fail
  refine HN.out.mono ?_
  rintro e w1 ⟨rfl, h1, h2⟩
  obtain ⟨_, c1, _, _, c4, cf⟩ := ps_cells h1
  have f1 := cf 1
  have HF := Lib.hid (And.intro (h1.step (i + 1)) ((Kb.of_below (fun j => j = P) h2).trans (Kb.setCell w1 ⟨P, 1, none⟩ (.int .i64 j)) (fun _ _ h => h)))
  rw [← HJ.out] at HF
  clear h1 h2 cf
  go_wp2
  go_end0
  exact ⟨rfl, HF.out.1, HF.out.2⟩
end Go.Proofs.Ytejdfpieblkapaa
