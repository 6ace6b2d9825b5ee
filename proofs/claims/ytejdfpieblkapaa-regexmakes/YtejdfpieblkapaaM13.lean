/- What settle does: all that follows ahead of the next byte. -/
import Derived.Test.YtejdfpieblkapaaM12
namespace Go.Proofs.Ytejdfpieblkapaa
open Go.RowKit

/-- settle's state, with a number that falls. -/
def LpAt (r : Rx) (u : List UInt8) (τ root base R : Nat) (g0 : Gh) (w : World) (k : Nat) (wr : World) : Prop :=
  ∃ bv ev sv g Bl El Sl PB PE PS, RnAt wr base R τ bv ev sv Bl El Sl ∧ SpAt wr r g root ∧ Fr base w wr ∧ St r u τ g.bg g.en PB PE PS ∧ On g Bl PB ∧ On g El PE ∧ On g Sl PS ∧ (∀ p c, g0.σ p = some c → g.σ p = some c) ∧ k = Bl.length + El.length + 4 * (cnt g.bg τ r.all + cnt g.en τ r.all) ∧ k ≤ 1000000 ∧ Sl.length + cnt g.bg τ r.all ≤ r.size

theorem begB_len (e : Rx) (p : Path) : (begB e p).length + (begE e p).length ≤ 2 ∧ (begS e p).length ≤ 1 := by cases e <;> simp [begB, begE, begS]
theorem endB_len (e : Rx) (k : Nat) (p : Path) : (endB e k p).length + (endE e k p).length ≤ 1 := by
  cases e with
  | cat a b => rcases k with _ | k <;> simp [endB, endE]
  | _ => simp [endB, endE]

theorem lp_begun {r : Rx} {u : List UInt8} {τ root base R : Nat} {g0 g : Gh} {w w1 w2 : World} {e : Ending} {gk b : Nat} {p : Path} {ex : Rx} {Bl El Sl : List Nat} {PB PE PS : List Path} (hb : Fr base w w1) (hst : St r u τ g.bg g.en (PB ++ [p]) PE PS) (ob : On g Bl PB) (oe : On g El PE) (os : On g Sl PS) (hg0 : ∀ p c, g0.σ p = some c → g.σ p = some c) (hk : gk = (Bl ++ [b]).length + El.length + 4 * (cnt g.bg τ r.all + cnt g.en τ r.all)) (hk2 : gk ≤ 1000000) (hk3 : Sl.length + cnt g.bg τ r.all ≤ r.size) (hat : r.at p = some ex) (hne : g.bg p ≠ τ)
    (h : StepTo r ⟨g.σ, upd g.bg p τ, g.en⟩ root base R τ Bl El Sl (begB ex p) (begE ex p) (begS ex p) w1 e w2) : ∃ k, k < gk ∧ LpAt r u τ root base R g0 w k w2 := by
  obtain ⟨_, bv, ev, sv, g', NB, NE, NS, h1, h2, h3, h4, h5, h6, h7⟩ := h
  have c1 := cnt_upd g.bg p τ r.all (Rx.at_all r p ex hat) hne
  have l1 := begB_len ex p
  have n1 := on_len h5; have n2 := on_len h6; have n3 := on_len h7
  have e1 : g'.bg = upd g.bg p τ := h4.1
  have e2 : g'.en = g.en := h4.2
  have hgg : ∀ p c, g.σ p = some c → g'.σ p = some c := fun q c hc => h4.3 q c hc
  refine ⟨(Bl ++ NB).length + (El ++ NE).length + 4 * (cnt g'.bg τ r.all + cnt g'.en τ r.all), ?_, bv, ev, sv, g', _, _, _, PB ++ begB ex p, PE ++ begE ex p, PS ++ begS ex p, h1, h2, hb.trans h3, ?_, on_append (on_grow ob hgg) h5, on_append (on_grow oe hgg) h6, on_append (on_grow os hgg) h7, fun q c hc => hgg q c (hg0 q c hc), rfl, ?_, ?_⟩
  · rw [e1, e2, hk]; simp only [List.length_append, List.length_singleton]; omega
  · rw [e1, e2]; exact hst.begin hat
  · rw [e1, e2]; simp only [List.length_append, List.length_singleton] at *; omega
  · rw [e1]; simp only [List.length_append] at *; omega

theorem lp_ended {r : Rx} {u : List UInt8} {τ root base R : Nat} {g0 g : Gh} {w w1 w2 : World} {e : Ending} {gk b : Nat} {p : Path} {ex : Rx} {Bl El Sl : List Nat} {PB PE PS XB XE : List Path} (hb : Fr base w w1) (hst : St r u τ g.bg (upd g.en p τ) (PB ++ XB) (PE ++ XE) PS) (ob : On g Bl PB) (oe : On g El PE) (os : On g Sl PS) (hg0 : ∀ p c, g0.σ p = some c → g.σ p = some c) (hk : gk = Bl.length + (El ++ [b]).length + 4 * (cnt g.bg τ r.all + cnt g.en τ r.all)) (hk2 : gk ≤ 1000000) (hk3 : Sl.length + cnt g.bg τ r.all ≤ r.size) (hat : r.at p = some ex) (hne : g.en p ≠ τ) (hx : XB.length + XE.length ≤ 1)
    (h : StepTo r ⟨g.σ, g.bg, upd g.en p τ⟩ root base R τ Bl El Sl XB XE [] w1 e w2) : ∃ k, k < gk ∧ LpAt r u τ root base R g0 w k w2 := by
  obtain ⟨_, bv, ev, sv, g', NB, NE, NS, h1, h2, h3, h4, h5, h6, h7⟩ := h
  have c1 := cnt_upd g.en p τ r.all (Rx.at_all r p ex hat) hne
  have n1 := on_len h5; have n2 := on_len h6; have n3 := on_len h7
  have e1 : g'.bg = g.bg := h4.1
  have e2 : g'.en = upd g.en p τ := h4.2
  have hgg : ∀ p c, g.σ p = some c → g'.σ p = some c := fun q c hc => h4.3 q c hc
  refine ⟨(Bl ++ NB).length + (El ++ NE).length + 4 * (cnt g'.bg τ r.all + cnt g'.en τ r.all), ?_, bv, ev, sv, g', _, _, _, PB ++ XB, PE ++ XE, PS ++ [], h1, h2, hb.trans h3, ?_, on_append (on_grow ob hgg) h5, on_append (on_grow oe hgg) h6, on_append (on_grow os hgg) h7, fun q c hc => hgg q c (hg0 q c hc), rfl, ?_, ?_⟩
  · rw [e1, e2, hk]; simp only [List.length_append, List.length_singleton]; omega
  · rw [e1, e2, List.append_nil]; exact hst
  · rw [e1, e2]; simp only [List.length_append, List.length_singleton] at *; omega
  · rw [e1]; simp only [List.length_append, List.length_nil] at *; omega

/-- What settle leaves. -/
def Settled (r : Rx) (u : List UInt8) (τ root base R : Nat) (g0 : Gh) (w w' : World) : Prop :=
  ∃ bv ev sv g Sl PS, RnAt w' base R τ bv ev sv [] [] Sl ∧ SpAt w' r g root ∧ Fr base w w' ∧ St r u τ g.bg g.en [] [] PS ∧ On g Sl PS ∧ (∀ p c, g0.σ p = some c → g.σ p = some c) ∧ Sl.length ≤ r.size

theorem settled_drewN {r : Rx} {u : List UInt8} {τ root base R : Nat} {g0 : Gh} {w w' : World} (h : Settled r u τ root base R g0 w w') (n : Nat) : Settled r u τ root base R g0 w (w'.drewN n) := by
  obtain ⟨bv, ev, sv, g, Sl, PS, hr, hs, hb, hst, os, hg0, hl⟩ := h
  exact ⟨bv, ev, sv, g, Sl, PS, rn_below hr (below_drewN _ _ n), hs.below (below_drewN _ _ n), hb.drewN n, hst, os, hg0, hl⟩
theorem sp_cells {w : World} {r : Rx} {g : Gh} {root b : Nat} {p : Path} (h : SpAt w r g root) (hb : g.σ p = some b) : w.cell? ⟨b, 4, none⟩ = some (.int .i64 (g.bg p)) ∧ w.cell? ⟨b, 5, none⟩ = some (.int .i64 (g.en p)) ∧ w.frozen? ⟨b, 4, none⟩ = false ∧ w.frozen? ⟨b, 5, none⟩ = false ∧ b < w.heap.size := by
  obtain ⟨e, nb, _, _, h3⟩ := h.at' p b hb
  unfold SpB at h3
  exact ⟨by rw [Lib.cell_of_heap h3]; rfl, by rw [Lib.cell_of_heap h3]; rfl, Lib.frozen_of_heap h3 4, Lib.frozen_of_heap h3 5, lt_of_heap h3⟩
theorem rn_c0 {w : World} {base R τ : Nat} {bv ev sv : Value} {Bl El Sl : List Nat} (hr : RnAt w base R τ bv ev sv Bl El Sl) : w.cell? ⟨R, 0, none⟩ = some (.int .i64 τ) := by rw [Lib.cell_of_heap hr.blk]; rfl

set_option maxRecDepth 100000 in
set_option maxHeartbeats 4000000 in
theorem settle_any (r : Rx) (u : List UInt8) (τ root base R : Nat) (g0 : Gh) (w : World) (n0 : Nat) (h0 : LpAt r u τ root base R g0 w n0 w) (hbase : base ≤ w.heap.size) (hbR : base ≤ R) (hroot : base ≤ root) (_hτ : τ ≤ 1000000) (hsz : r.size ≤ 16384) :
    Calls Try.prog 28 #[ptr R] w fun e w' => e = .returned (.tuple #[]) ∧ Settled r u τ root base R g0 w w' := by
  have H0 := Lib.hid h0; clear h0
  go_enter Try.func28, Try.ntmps28
  go_wp2_with fail
  go_loopg [] n0 (fun k wr => LpAt r u τ root base R g0 w k wr)
  case atStart => exact H0.out
  case round =>
    obtain ⟨bv, ev, sv, g, Bl, El, Sl, PB, PE, PS, hr, hs, hb, hst, ob, oe, os, hg0, hk, hk2, hk3⟩ := hrel
    have hbw : base ≤ wr.heap.size := Nat.le_trans hbase hb.size
    have r0 := rn_c0 hr
    have r1 := rn_c1 hr
    have r2 := rn_c2 hr
    obtain ⟨A1, c1, e1, hA1, hA2⟩ := own_form hr.bo
    obtain ⟨A2, c2, e2, hA3, hA4⟩ := own_form hr.eo
    obtain ⟨nb, hnb⟩ : ∃ nb, nb = Bl.length := ⟨_, rfl⟩
    obtain ⟨ne, hne⟩ : ∃ ne, ne = El.length := ⟨_, rfl⟩
    have hlb : nb ≤ 1000000 := by omega
    have hle : ne ≤ 1000000 := by omega
    rw [e1, ← hnb] at r1
    rw [e2, ← hne] at r2
    clear e1 e2 hA1 hA2 hA3 hA4
    rcases List.eq_nil_or_concat El with rfl | ⟨E0, x, rfl⟩
    · rcases List.eq_nil_or_concat Bl with rfl | ⟨B0, x, rfl⟩
      · obtain rfl := on_nil ob
        obtain rfl := on_nil oe
        have HH := Lib.hid (show Settled r u τ root base R g0 w wr from ⟨_, _, _, g, Sl, PS, hr, hs, hb, hst, os, hg0, by omega⟩)
        rw [hnb] at r1; rw [hne] at r2
        have r1' : wr.cell? ⟨R, 1, none⟩ = some (.slice A1 0 c1) := r1
        have r2' : wr.cell? ⟨R, 2, none⟩ = some (.slice A2 0 c2) := r2
        clear hr hs hb hst ob oe os hg0 hk hk2 hk3 r1 r2 hnb hne hlb hle
        go_wp2_with fail
        go_quiet (fail)
        go_wp2
        go_end0
        exact ⟨rfl, settled_drewN HH.out nq⟩
      · rw [List.concat_eq_append] at *
        have hnb0 : (0 : Int) < nb := by rw [hnb, List.length_append, List.length_singleton]; omega
        rw [hne] at r2
        have r2' : wr.cell? ⟨R, 2, none⟩ = some (.slice A2 0 c2) := r2
        obtain ⟨P0, p, rfl, ob0, hp⟩ := on_snoc ob
        obtain ⟨ex, _, hat, _, _⟩ := hs.at' _ _ hp
        have HH := Lib.hid (And.intro hr (And.intro hs (And.intro hb (And.intro hst (And.intro ob0 (And.intro oe (And.intro os (And.intro hg0 (And.intro hk (And.intro hk2 (And.intro hk3 (And.intro hp hat))))))))))))
        clear hr hs hb hst ob ob0 oe os hg0 hk hk2 hk3 r2 hnb hne hle hp hat
        go_wp2_with fail
        go_quiet (fail)
        go_wp2_with fail
        have hbd : Below wr.heap.size wr (wr.drewN nq) := below_drewN _ wr nq
        generalize hw1 : wr.drewN nq = w1 at hbd ⊢
        clear hw1
        have HR1 := Lib.hid (rn_below HH.out.1 hbd)
        have HS1 := Lib.hid (HH.out.2.1.below hbd)
        have HB1 := Lib.hid (HH.out.2.2.1.trans (Fr.of_below hbw hbd))
        have hw1 : base ≤ w1.heap.size := Nat.le_trans hbw hbd.size
        clear r0 r1 r2' hbd
        refine (pop_el0 w1 base R τ _ _ sv _ Sl HR1.out).mono ?_
        rintro e w1' ⟨rfl, rfl⟩
        go_wp2_with fail
        refine (pop_bl w1' r g root base R τ x _ _ sv B0 [] Sl HS1.out HR1.out hw1 hbR).mono ?_
        rintro e w2 ⟨rfl, v', hr2, hs2, hb2⟩
        have r0 := rn_c0 hr2
        obtain ⟨x4, _, x4f, _, hxl⟩ := sp_cells hs2 HH.out.2.2.2.2.2.2.2.2.2.2.2.1
        have hw2 : base ≤ w2.heap.size := Nat.le_trans hw1 hb2.size
        have HR2 := Lib.hid hr2; have HS2 := Lib.hid hs2; have HB2 := Lib.hid (HB1.out.trans hb2)
        clear hr2 hs2 hb2
        by_cases hbg : g.bg p = τ
        · have HG := Lib.hid hbg
          rw [hbg] at x4
          clear hbg
          go_wp2_with fail
          go_quiet (fail)
          go_wp2
          obtain ⟨_, _, _, hst, ob0, oe, os, hg0, hk, hk2, hk3, hp, hat⟩ := HH.out
          go_roundg (gk - 1)
          case measure => simp only [List.length_append, List.length_singleton] at hk; omega
          case rel =>
            simp only [List.length_append, List.length_singleton, List.length_nil] at hk
            exact ⟨_, _, _, g, B0, [], Sl, P0, PE, PS, rn_below HR2.out (below_drewN _ _ nq), HS2.out.below (below_drewN _ _ nq), HB2.out.drewN nq, hst.popB HG.out, ob0, oe, os, hg0, by simp only [List.length_nil]; omega, by omega, hk3⟩
        · have hbgi : ((g.bg p : Nat) : Int) ≠ (τ : Int) := by omega
          have HG := Lib.hid hbg
          generalize g.bg p = bp at x4 hbgi
          clear hbg
          go_wp2_with fail
          go_quiet (fail)
          go_wp2_with fail
          obtain ⟨_, _, _, hst, ob0, oe, os, hg0, hk, hk2, hk3, hp, hat⟩ := HH.out
          have hs3 := (sp_set (HS2.out.below (below_drewN _ _ nq)) hp τ).1
          have hr3 := rn_keep (rn_below HR2.out (below_drewN _ _ nq)) (Kb.setCell (w2.drewN nq) ⟨x, 4, none⟩ (.int .i64 τ)) (sp_ty (HS2.out.below (below_drewN _ _ nq)) hp)
          have hx : base ≤ x := Nat.le_trans hroot (HS2.out.low p x root HS2.out.root hp)
          have hb3 : Fr base w ((w2.drewN nq).setCell ⟨x, 4, none⟩ (.int .i64 τ)) := (HB2.out.drewN nq).trans (Fr.of_part (Kb.setCell (w2.drewN nq) ⟨x, 4, none⟩ (.int .i64 τ)) hw2 hx (sp_ty (HS2.out.below (below_drewN _ _ nq)) hp))
          have hw3 : base ≤ ((w2.drewN nq).setCell ⟨x, 4, none⟩ (.int .i64 τ)).heap.size := Nat.le_trans hbase hb3.size
          have hlen : B0.length ≤ 1048576 ∧ Sl.length ≤ 1048576 := by simp only [List.length_append, List.length_singleton, List.length_nil] at hk; omega
          refine (begin_any _ r ⟨g.σ, upd g.bg p τ, g.en⟩ root base R τ x p ex _ _ sv B0 [] Sl hs3 hr3 hp hat hw3 hbR hroot hlen.1 (by simp) hlen.2).mono ?_
          rintro e w4 hstep
          obtain ⟨kk, hkk, hll⟩ := lp_begun hb3 hst ob0 oe os hg0 hk hk2 hk3 hat HG.out hstep
          obtain ⟨rfl, _⟩ := hstep
          have HL := Lib.hid hll
          clear hs3 hr3 hb3 hw3 hlen hst ob0 oe os hg0 hk hk2 hk3 hp hat hll x4 x4f r0
          go_wp2
          go_roundg kk
          case measure => exact hkk
          case rel => exact HL.out
    · rw [List.concat_eq_append] at *
      have hne0 : (0 : Int) < ne := by rw [hne, List.length_append, List.length_singleton]; omega
      obtain ⟨P0, p, rfl, oe0, hp⟩ := on_snoc oe
      obtain ⟨ex, _, hat, _, _⟩ := hs.at' _ _ hp
      have hsum : (0 : Int) < (nb : Int) + ne := by omega
      have hwrap : IntKind.i64.wrap ((nb : Int) + ne) = (nb : Int) + ne := IntWalk.i64_in _ (by omega)
      have HH := Lib.hid (And.intro hr (And.intro hs (And.intro hb (And.intro hst (And.intro ob (And.intro oe0 (And.intro os (And.intro hg0 (And.intro hk (And.intro hk2 (And.intro hk3 (And.intro hp hat))))))))))))
      clear hr hs hb hst ob oe0 oe os hg0 hk hk2 hk3 hnb hne hp hat
      go_wp2_with fail
      go_quiet (fail)
      go_wp2_with fail
      have hbd : Below wr.heap.size wr (wr.drewN nq) := below_drewN _ wr nq
      generalize hw1 : wr.drewN nq = w1 at hbd ⊢
      clear hw1
      have HR1 := Lib.hid (rn_below HH.out.1 hbd)
      have HS1 := Lib.hid (HH.out.2.1.below hbd)
      have HB1 := Lib.hid (HH.out.2.2.1.trans (Fr.of_below hbw hbd))
      have hw1 : base ≤ w1.heap.size := Nat.le_trans hbw hbd.size
      clear r0 r1 r2 hbd
      refine (pop_el w1 r g root base R τ x _ _ sv Bl E0 Sl HS1.out HR1.out hw1 hbR).mono ?_
      rintro e w2 ⟨rfl, v', hr2, hs2, hb2⟩
      have r0 := rn_c0 hr2
      obtain ⟨_, x4, _, x4f, hxl⟩ := sp_cells hs2 HH.out.2.2.2.2.2.2.2.2.2.2.2.1
      have hw2 : base ≤ w2.heap.size := Nat.le_trans hw1 hb2.size
      have HR2 := Lib.hid hr2; have HS2 := Lib.hid hs2; have HB2 := Lib.hid (HB1.out.trans hb2)
      clear hr2 hs2 hb2
      by_cases hbg : g.en p = τ
      · have HG := Lib.hid hbg
        rw [hbg] at x4
        clear hbg
        go_wp2_with fail
        go_quiet (fail)
        go_wp2
        obtain ⟨_, _, _, hst, ob0, oe, os, hg0, hk, hk2, hk3, hp, hat⟩ := HH.out
        go_roundg (gk - 1)
        case measure => simp only [List.length_append, List.length_singleton] at hk; omega
        case rel =>
          simp only [List.length_append, List.length_singleton] at hk
          exact ⟨_, _, _, g, Bl, E0, Sl, PB, P0, PS, rn_below HR2.out (below_drewN _ _ nq), HS2.out.below (below_drewN _ _ nq), HB2.out.drewN nq, hst.popE HG.out, ob0, oe, os, hg0, by omega, by omega, hk3⟩
      · have hbgi : ((g.en p : Nat) : Int) ≠ (τ : Int) := by omega
        have HG := Lib.hid hbg
        generalize g.en p = bp at x4 hbgi
        clear hbg
        go_wp2_with fail
        go_quiet (fail)
        go_wp2_with fail
        obtain ⟨_, _, _, hst, ob0, oe, os, hg0, hk, hk2, hk3, hp, hat⟩ := HH.out
        have hs3 := (sp_set (HS2.out.below (below_drewN _ _ nq)) hp τ).2
        have hr3 := rn_keep (rn_below HR2.out (below_drewN _ _ nq)) (Kb.setCell (w2.drewN nq) ⟨x, 5, none⟩ (.int .i64 τ)) (sp_ty (HS2.out.below (below_drewN _ _ nq)) hp)
        have hx : base ≤ x := Nat.le_trans hroot (HS2.out.low p x root HS2.out.root hp)
        have hb3 : Fr base w ((w2.drewN nq).setCell ⟨x, 5, none⟩ (.int .i64 τ)) := (HB2.out.drewN nq).trans (Fr.of_part (Kb.setCell (w2.drewN nq) ⟨x, 5, none⟩ (.int .i64 τ)) hw2 hx (sp_ty (HS2.out.below (below_drewN _ _ nq)) hp))
        have hw3 : base ≤ ((w2.drewN nq).setCell ⟨x, 5, none⟩ (.int .i64 τ)).heap.size := Nat.le_trans hbase hb3.size
        have hlen : Bl.length ≤ 1048576 ∧ E0.length ≤ 1048576 := by simp only [List.length_append, List.length_singleton] at hk; omega
        have HC : Calls Try.prog 51 #[ptr R, ptr x] ((w2.drewN nq).setCell ⟨x, 5, none⟩ (.int .i64 τ)) fun e w4 => e = .returned (.tuple #[]) ∧ ∃ kk, kk < gk ∧ LpAt r u τ root base R g0 w kk w4 := by
          rcases p with _ | ⟨k, q⟩
          · have hxr : x = root := by have := HS2.out.root; rw [hp] at this; injection this
            subst hxr
            refine (end_top _ r ⟨g.σ, g.bg, upd g.en [] τ⟩ x base R τ _ _ sv Bl E0 Sl hs3 hr3 hw3 hbR).mono ?_
            rintro e w4 hstep
            exact ⟨hstep.1, lp_ended (XB := []) (XE := []) hb3 (by rw [List.append_nil, List.append_nil]; exact hst.endTop) ob0 oe os hg0 hk hk2 hk3 hat HG.out (by simp) hstep⟩
          · obtain ⟨bu, hbu⟩ := HS2.out.par _ _ _ hp
            obtain ⟨eu, _, hau, _, _⟩ := HS2.out.at' _ _ hbu
            have hk2' : k < 2 := by
              have h' := hat
              rw [Rx.at_cons, hau] at h'
              rcases k with _ | _ | k
              · omega
              · omega
              · cases eu <;> simp [Rx.kid] at h'
            refine (end_part _ r ⟨g.σ, g.bg, upd g.en (k :: q) τ⟩ root base R τ x k q eu _ _ sv Bl E0 Sl hs3 hr3 hp hau hk2' hw3 hbR hroot hlen.1 hlen.2).mono ?_
            rintro e w4 hstep
            exact ⟨hstep.1, lp_ended hb3 (hst.endPart hk2' hau ⟨_, hat⟩) ob0 oe os hg0 hk hk2 hk3 hat HG.out (endB_len eu k q) hstep⟩
        refine HC.mono ?_
        rintro e w4 ⟨rfl, kk, hkk, hll⟩
        have HL := Lib.hid hll
        clear hs3 hr3 hb3 hw3 hlen hst ob0 oe os hg0 hk hk2 hk3 hp hat hll x4 x4f r0 HC
        go_wp2
        go_roundg kk
        case measure => exact hkk
        case rel => exact HL.out
end Go.Proofs.Ytejdfpieblkapaa
