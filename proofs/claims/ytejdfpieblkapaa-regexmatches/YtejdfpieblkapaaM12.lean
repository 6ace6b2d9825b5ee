/- Lists of a run: a spot is taken off; a spot's times are set. -/
import Derived.Test.YtejdfpieblkapaaM11
import Derived.Deep.LoopGhost
import Derived.Laws.IdiomStrings
namespace Go.Proofs.Ytejdfpieblkapaa
open Go.RowKit

theorem own_snoc {w : World} {base n : Nat} {v x : Value} {xs : List Value} (h : w.ownsRow base 64 1 v (n + 1) (xs ++ [x])) (hn : xs.length = n) :
    ∃ g cap, v = .slice (some ⟨g, 0, none⟩) (n + 1) cap ∧ w.cell? ⟨g, n, none⟩ = some x ∧ n + 1 ≤ cap ∧ cap ≤ 9223372036854775807 ∧ w.ownsRow base 64 1 (.slice (some ⟨g, 0, none⟩) n cap) n xs := by
  rcases h.2 with ⟨_, h0⟩ | ⟨g, cap, cur, hv, hb, hh, h1, h2, h3, h4⟩
  · omega
  · rw [Nat.mul_one] at h4
    refine ⟨g, cap, hv, ?_, h1, by unfold maxLen at h2; omega, by rw [hn, Nat.mul_one], .inr ⟨g, cap, cur, rfl, hb, hh, by omega, h2, h3, ?_⟩⟩
    · rw [Lib.cell_of_heap hh]
      have : (cur.toList.take (n + 1))[n]? = some x := by rw [h4, List.getElem?_append_right (by omega), hn]; simp
      rw [List.getElem?_take_of_lt (by omega)] at this
      simpa using this
    · rw [Nat.mul_one]
      have : (cur.toList.take (n + 1)).take n = xs := by rw [h4, List.take_append_of_le_length (by omega), List.take_of_length_le (by omega)]
      rw [List.take_take, Nat.min_eq_left (by omega)] at this
      exact this

theorem rn_set1 {w : World} {base R τ : Nat} {bv ev sv v' : Value} {Bl El Sl Bl' : List Nat} (hr : RnAt w base R τ bv ev sv Bl El Sl) (ho : w.ownsRow base 64 1 v' Bl'.length (Bl'.map ptr)) (hat : v'.ownBlock = bv.ownBlock) (hbR : base ≤ R) (hbw : base ≤ w.heap.size) :
    RnAt (w.setCell ⟨R, 1, none⟩ v') base R τ v' ev sv Bl' El Sl ∧ KR R w (w.setCell ⟨R, 1, none⟩ v') ∧ Fr base w (w.setCell ⟨R, 1, none⟩ v') := by
  have hset := Kb.setCell w ⟨R, 1, none⟩ v'
  have hblk : (w.setCell ⟨R, 1, none⟩ v').heap[R]? = some (.cells #[.int .i64 τ, v', ev, sv, .map none, .map none] 73 (0, 0)) := by
    rw [set_heap w R 1 _ v' _ _ hr.blk]; rfl
  have hn : ∀ {v : Value} {n : Nat} {xs : List Value}, w.ownsRow base 64 1 v n xs → ∀ q, v.ownBlock = some q → ¬ q = R := fun h q hq he => own_not h hr.blk (by decide) (by rw [hq, he])
  refine ⟨⟨hblk, own_kb ho hset (hn ho), own_kb hr.eo hset (hn hr.eo), own_kb hr.so hset (hn hr.so), fun q h1 => hr.be q (hat ▸ h1), fun q h1 => hr.bs q (hat ▸ h1), hr.es⟩, fun i cs t fz hi hR ht => (hset.block i (lt_of_heap hi) hR).trans hi, Fr.of_kr (hset.below hbw (fun i hi => by rw [hi]; exact hbR)) (fun i cs t fz hi hR ht => (hset.block i (lt_of_heap hi) hR).trans hi) ⟨_, hr.blk⟩⟩
theorem rn_set2 {w : World} {base R τ : Nat} {bv ev sv v' : Value} {Bl El Sl El' : List Nat} (hr : RnAt w base R τ bv ev sv Bl El Sl) (ho : w.ownsRow base 64 1 v' El'.length (El'.map ptr)) (hat : v'.ownBlock = ev.ownBlock) (hbR : base ≤ R) (hbw : base ≤ w.heap.size) :
    RnAt (w.setCell ⟨R, 2, none⟩ v') base R τ bv v' sv Bl El' Sl ∧ KR R w (w.setCell ⟨R, 2, none⟩ v') ∧ Fr base w (w.setCell ⟨R, 2, none⟩ v') := by
  have hset := Kb.setCell w ⟨R, 2, none⟩ v'
  have hblk : (w.setCell ⟨R, 2, none⟩ v').heap[R]? = some (.cells #[.int .i64 τ, bv, v', sv, .map none, .map none] 73 (0, 0)) := by
    rw [set_heap w R 2 _ v' _ _ hr.blk]; rfl
  have hn : ∀ {v : Value} {n : Nat} {xs : List Value}, w.ownsRow base 64 1 v n xs → ∀ q, v.ownBlock = some q → ¬ q = R := fun h q hq he => own_not h hr.blk (by decide) (by rw [hq, he])
  refine ⟨⟨hblk, own_kb hr.bo hset (hn hr.bo), own_kb ho hset (hn ho), own_kb hr.so hset (hn hr.so), fun q h1 h2 => hr.be q h1 (hat ▸ h2), hr.bs, fun q h1 => hr.es q (hat ▸ h1)⟩, fun i cs t fz hi hR ht => (hset.block i (lt_of_heap hi) hR).trans hi, Fr.of_kr (hset.below hbw (fun i hi => by rw [hi]; exact hbR)) (fun i cs t fz hi hR ht => (hset.block i (lt_of_heap hi) hR).trans hi) ⟨_, hr.blk⟩⟩
theorem rn_set3 {w : World} {base R τ : Nat} {bv ev sv v' : Value} {Bl El Sl Sl' : List Nat} (hr : RnAt w base R τ bv ev sv Bl El Sl) (ho : w.ownsRow base 64 1 v' Sl'.length (Sl'.map ptr)) (hat : v'.ownBlock = sv.ownBlock) (hbR : base ≤ R) (hbw : base ≤ w.heap.size) :
    RnAt (w.setCell ⟨R, 3, none⟩ v') base R τ bv ev v' Bl El Sl' ∧ KR R w (w.setCell ⟨R, 3, none⟩ v') ∧ Fr base w (w.setCell ⟨R, 3, none⟩ v') := by
  have hset := Kb.setCell w ⟨R, 3, none⟩ v'
  have hblk : (w.setCell ⟨R, 3, none⟩ v').heap[R]? = some (.cells #[.int .i64 τ, bv, ev, v', .map none, .map none] 73 (0, 0)) := by
    rw [set_heap w R 3 _ v' _ _ hr.blk]; rfl
  have hn : ∀ {v : Value} {n : Nat} {xs : List Value}, w.ownsRow base 64 1 v n xs → ∀ q, v.ownBlock = some q → ¬ q = R := fun h q hq he => own_not h hr.blk (by decide) (by rw [hq, he])
  refine ⟨⟨hblk, own_kb hr.bo hset (hn hr.bo), own_kb hr.eo hset (hn hr.eo), own_kb ho hset (hn ho), hr.be, fun q h1 h2 => hr.bs q h1 (hat ▸ h2), fun q h1 h2 => hr.es q h1 (hat ▸ h2)⟩, fun i cs t fz hi hR ht => (hset.block i (lt_of_heap hi) hR).trans hi, Fr.of_kr (hset.below hbw (fun i hi => by rw [hi]; exact hbR)) (fun i cs t fz hi hR ht => (hset.block i (lt_of_heap hi) hR).trans hi) ⟨_, hr.blk⟩⟩
/-- The run's time is set. -/
theorem rn_set0 {w : World} {base R τ τ' : Nat} {bv ev sv : Value} {Bl El Sl : List Nat} (hr : RnAt w base R τ bv ev sv Bl El Sl) (hbR : base ≤ R) (hbw : base ≤ w.heap.size) :
    RnAt (w.setCell ⟨R, 0, none⟩ (.int .i64 τ')) base R τ' bv ev sv Bl El Sl ∧ KR R w (w.setCell ⟨R, 0, none⟩ (.int .i64 τ')) ∧ Fr base w (w.setCell ⟨R, 0, none⟩ (.int .i64 τ')) := by
  have hset := Kb.setCell w ⟨R, 0, none⟩ (.int .i64 τ')
  have hblk : (w.setCell ⟨R, 0, none⟩ (.int .i64 τ')).heap[R]? = some (.cells #[.int .i64 τ', bv, ev, sv, .map none, .map none] 73 (0, 0)) := by
    rw [set_heap w R 0 _ _ _ _ hr.blk]; rfl
  have hn : ∀ {v : Value} {n : Nat} {xs : List Value}, w.ownsRow base 64 1 v n xs → ∀ q, v.ownBlock = some q → ¬ q = R := fun h q hq he => own_not h hr.blk (by decide) (by rw [hq, he])
  refine ⟨⟨hblk, own_kb hr.bo hset (hn hr.bo), own_kb hr.eo hset (hn hr.eo), own_kb hr.so hset (hn hr.so), hr.be, hr.bs, hr.es⟩, fun i cs t fz hi hR ht => (hset.block i (lt_of_heap hi) hR).trans hi, Fr.of_kr (hset.below hbw (fun i hi => by rw [hi]; exact hbR)) (fun i cs t fz hi hR ht => (hset.block i (lt_of_heap hi) hR).trans hi) ⟨_, hr.blk⟩⟩

/-- pop on the ends. -/
theorem pop_el (w : World) (r : Rx) (g : Gh) (root base R τ x : Nat) (bv ev sv : Value) (Bl El Sl : List Nat) (hs : SpAt w r g root) (hr : RnAt w base R τ bv ev sv Bl (El ++ [x]) Sl) (hbase : base ≤ w.heap.size) (hbR : base ≤ R) :
    Calls Try.prog 50 #[.pointer (some ⟨R, 2, none⟩)] w fun e w' => e = .returned (ptr x) ∧ ∃ v', RnAt w' base R τ bv v' sv Bl El Sl ∧ SpAt w' r g root ∧ Fr base w w' := by
  have ho := hr.eo
  rw [List.length_append, List.map_append] at ho
  obtain ⟨gE, cap, hv, hc, h1, h2, h3⟩ := own_snoc (n := El.length) ho (by simp)
  have hc2 : w.cell? ⟨R, 2, none⟩ = some ev := rn_c2 hr
  rw [hv] at hc2
  refine (pop_some R 2 gE El.length (El.length + 1) cap x w rfl hc2 (Lib.frozen_of_heap hr.blk 2) h1 h2 hc).mono ?_
  rintro e w' ⟨rfl, rfl⟩
  obtain ⟨a1, a2, a3⟩ := rn_set2 hr h3 (by rw [hv]; rfl) hbR hbase
  exact ⟨rfl, _, a1, hs.kr a2 ⟨_, hr.blk⟩, a3⟩
theorem pop_bl (w : World) (r : Rx) (g : Gh) (root base R τ x : Nat) (bv ev sv : Value) (Bl El Sl : List Nat) (hs : SpAt w r g root) (hr : RnAt w base R τ bv ev sv (Bl ++ [x]) El Sl) (hbase : base ≤ w.heap.size) (hbR : base ≤ R) :
    Calls Try.prog 50 #[.pointer (some ⟨R, 1, none⟩)] w fun e w' => e = .returned (ptr x) ∧ ∃ v', RnAt w' base R τ v' ev sv Bl El Sl ∧ SpAt w' r g root ∧ Fr base w w' := by
  have ho := hr.bo
  rw [List.length_append, List.map_append] at ho
  obtain ⟨gE, cap, hv, hc, h1, h2, h3⟩ := own_snoc (n := Bl.length) ho (by simp)
  have hc2 : w.cell? ⟨R, 1, none⟩ = some bv := rn_c1 hr
  rw [hv] at hc2
  refine (pop_some R 1 gE Bl.length (Bl.length + 1) cap x w rfl hc2 (Lib.frozen_of_heap hr.blk 1) h1 h2 hc).mono ?_
  rintro e w' ⟨rfl, rfl⟩
  obtain ⟨a1, a2, a3⟩ := rn_set1 hr h3 (by rw [hv]; rfl) hbR hbase
  exact ⟨rfl, _, a1, hs.kr a2 ⟨_, hr.blk⟩, a3⟩
theorem pop_el0 (w : World) (base R τ : Nat) (bv ev sv : Value) (Bl Sl : List Nat) (hr : RnAt w base R τ bv ev sv Bl [] Sl) :
    Calls Try.prog 50 #[.pointer (some ⟨R, 2, none⟩)] w fun e w' => e = .returned (.pointer none) ∧ w' = w := by
  obtain ⟨A, c, hv, _, _⟩ := own_form hr.eo
  have hc2 : w.cell? ⟨R, 2, none⟩ = some ev := rn_c2 hr
  rw [hv] at hc2
  exact pop_none R 2 A c w hc2

/-- A spot's times are set. -/
theorem sp_set {w : World} {r : Rx} {g : Gh} {root b : Nat} {p : Path} (h : SpAt w r g root) (hb : g.σ p = some b) (τ : Nat) :
    (SpAt (w.setCell ⟨b, 4, none⟩ (.int .i64 τ)) r ⟨g.σ, upd g.bg p τ, g.en⟩ root ∧ SpAt (w.setCell ⟨b, 5, none⟩ (.int .i64 τ)) r ⟨g.σ, g.bg, upd g.en p τ⟩ root) := by
  obtain ⟨eb, nb, hb1, hb2, hb3⟩ := h.at' p b hb
  have hkn : ∀ j v, KN w (w.setCell ⟨b, j, none⟩ v) := fun j v => (Kb.setCell w ⟨b, j, none⟩ v).kn (fun i hi cs t fz hh => by
    have hi' : i = b := hi
    rw [hi'] at hh
    unfold SpB at hb3
    have hh' : w.heap[b]? = some (Obj.cells cs t fz) := hh
    rw [hb3] at hh'
    injection hh' with hh'
    injection hh' with _ h2
    rw [← h2]; decide)
  have hne : ∀ q c, g.σ q = some c → q ≠ p → c ≠ b := fun q c hc hq e => hq (h.inj _ _ _ (e ▸ hc) hb)
  constructor
  · refine ⟨h.root, fun q c hc => ?_, h.par, h.inj, fun q hq => ?_, h.low⟩
    · obtain ⟨e, nc, h1, h2, h3⟩ := h.at' q c hc
      refine ⟨e, nc, h1, h2.keep (hkn _ _), ?_⟩
      by_cases hqp : q = p
      · subst hqp
        have hc' : g.σ q = some c := hc
        rw [hb] at hc'
        injection hc' with hc'
        subst hc'
        unfold SpB at h3 ⊢
        rw [set_heap w b 4 _ _ _ _ h3]
        simp [upd_same]
        rfl
      · unfold SpB at h3 ⊢
        have : (upd g.bg p τ) q = g.bg q := if_neg hqp
        rw [(Kb.setCell w ⟨b, 4, none⟩ (.int .i64 τ)).block c (lt_of_heap h3) (hne q c hc hqp), h3]
        simp only [this]
        rfl
    · have : q ≠ p := by rintro rfl; have hq' : g.σ q = none := hq; rw [hb] at hq'; cases hq'
      show upd g.bg p τ q = 0 ∧ g.en q = 0
      unfold upd; rw [if_neg this]; exact h.new q hq
  · refine ⟨h.root, fun q c hc => ?_, h.par, h.inj, fun q hq => ?_, h.low⟩
    · obtain ⟨e, nc, h1, h2, h3⟩ := h.at' q c hc
      refine ⟨e, nc, h1, h2.keep (hkn _ _), ?_⟩
      by_cases hqp : q = p
      · subst hqp
        have hc' : g.σ q = some c := hc
        rw [hb] at hc'
        injection hc' with hc'
        subst hc'
        unfold SpB at h3 ⊢
        rw [set_heap w b 5 _ _ _ _ h3]
        simp [upd_same]
        rfl
      · unfold SpB at h3 ⊢
        have : (upd g.en p τ) q = g.en q := if_neg hqp
        rw [(Kb.setCell w ⟨b, 5, none⟩ (.int .i64 τ)).block c (lt_of_heap h3) (hne q c hc hqp), h3]
        simp only [this]
        rfl
    · have : q ≠ p := by rintro rfl; have hq' : g.σ q = none := hq; rw [hb] at hq'; cases hq'
      show g.bg q = 0 ∧ upd g.en p τ q = 0
      unfold upd; rw [if_neg this]; exact h.new q hq

theorem on_snoc {g : Gh} {l : List Nat} {x : Nat} {ps : List Path} (h : On g (l ++ [x]) ps) : ∃ qs p, ps = qs ++ [p] ∧ On g l qs ∧ g.σ p = some x := by
  unfold On at h
  rcases List.eq_nil_or_concat ps with rfl | ⟨qs, p, rfl⟩
  · simp at h
  · rw [List.concat_eq_append] at *
    rw [List.map_append, List.map_append] at h
    have := List.append_inj' h rfl
    exact ⟨qs, p, rfl, this.1, by simpa using this.2.symm⟩
theorem on_nil {g : Gh} {ps : List Path} (h : On g [] ps) : ps = [] := by
  unfold On at h; simpa using h.symm
theorem on_len {g : Gh} {l : List Nat} {ps : List Path} (h : On g l ps) : l.length = ps.length := by
  have := congrArg List.length h; simpa using this
theorem on_append {g : Gh} {l l' : List Nat} {ps ps' : List Path} (h : On g l ps) (h' : On g l' ps') : On g (l ++ l') (ps ++ ps') := by
  unfold On at *; rw [List.map_append, List.map_append, h, h']
theorem on_grow {g g' : Gh} {l : List Nat} {ps : List Path} (h : On g l ps) (hg : ∀ p c, g.σ p = some c → g'.σ p = some c) : On g' l ps := by
  induction l generalizing ps with
  | nil => rw [on_nil h]; rfl
  | cons a l ih =>
    cases ps with
    | nil => simp [On] at h
    | cons p ps =>
      unfold On at h
      simp only [List.map_cons, List.cons.injEq] at h
      have := ih h.2
      unfold On at *
      simp only [List.map_cons, List.cons.injEq]
      exact ⟨(hg p a h.1.symm).symm, this⟩
end Go.Proofs.Ytejdfpieblkapaa

/- What settle does: all that follows ahead of the next byte. -/
namespace Go.Proofs.Ytejdfpieblkapaa
open Go.RowKit

/-- settle's state, with a number that falls. -/
def LpAt (r : Rx) (u : List UInt8) (τ root base R : Nat) (g0 : Gh) (w : World) (k : Nat) (wr : World) : Prop :=
  ∃ bv ev sv g Bl El Sl PB PE PS, RnAt wr base R τ bv ev sv Bl El Sl ∧ SpAt wr r g root ∧ Fr base w wr ∧ St r u τ g.bg g.en PB PE PS ∧ On g Bl PB ∧ On g El PE ∧ On g Sl PS ∧ (∀ p c, g0.σ p = some c → g.σ p = some c) ∧ k = Bl.length + El.length + 4 * (cnt g.bg τ r.all + cnt g.en τ r.all) ∧ k ≤ 1000000 ∧ Sl.length + cnt g.bg τ r.all ≤ r.size

theorem begB_len (e : Rx) (p : Path) : (begB e p).length + (begE e p).length ≤ 2 ∧ (begS e p).length ≤ 1 := by cases e <;> simp [begB, begE, begS]
theorem endB_len (e : Rx) (k : Nat) (p : Path) : (endB e k p).length + (endE e k p).length ≤ 1 := by
  cases e with
  | cat a b => rcases k with _ | k <;> simp [endB, endE]
  | _ => simp [endB, endE]

theorem lp_begun {r : Rx} {u : List UInt8} {τ root base R : Nat} {g0 g : Gh} {w w1 w2 : World} {e : Ending} {gk b : Nat} {p : Path} {ex : Rx} {Bl El Sl : List Nat} {PB PE PS : List Path} (hb : Fr base w w1) (hst : St r u τ g.bg g.en (PB ++ [p]) PE PS) (ob : On g Bl PB) (oe : On g El PE) (os : On g Sl PS) (hg0 : ∀ p c, g0.σ p = some c → g.σ p = some c) (hk : gk = (Bl ++ [b]).length + El.length + 4 * (cnt g.bg τ r.all + cnt g.en τ r.all)) (hk2 : gk ≤ 1000000) (hk3 : Sl.length + cnt g.bg τ r.all ≤ r.size) (hat : r.at p = some ex) (hne : g.bg p ≠ τ)
    (h : StepTo r ⟨g.σ, upd g.bg p τ, g.en⟩ root base R τ Bl El Sl (begB ex p) (begE ex p) (begS ex p) w1 e w2) : ∃ k, k < gk ∧ LpAt r u τ root base R g0 w k w2 := by
  obtain ⟨_, bv, ev, sv, g', NB, NE, NS, h1, h2, h3, h4, h5, h6, h7⟩ := h
  have c1 := cnt_upd g.bg p τ r.all (Rx.at_all r p ex hat) hne
  have l1 := begB_len ex p
  have n1 := on_len h5; have n2 := on_len h6; have n3 := on_len h7
  have e1 : g'.bg = upd g.bg p τ := h4.1
  have e2 : g'.en = g.en := h4.2
  have hgg : ∀ p c, g.σ p = some c → g'.σ p = some c := fun q c hc => h4.3 q c hc
  refine ⟨(Bl ++ NB).length + (El ++ NE).length + 4 * (cnt g'.bg τ r.all + cnt g'.en τ r.all), ?_, bv, ev, sv, g', _, _, _, PB ++ begB ex p, PE ++ begE ex p, PS ++ begS ex p, h1, h2, hb.trans h3, ?_, on_append (on_grow ob hgg) h5, on_append (on_grow oe hgg) h6, on_append (on_grow os hgg) h7, fun q c hc => hgg q c (hg0 q c hc), rfl, ?_, ?_⟩
  · rw [e1, e2, hk]; simp only [List.length_append, List.length_singleton]; omega
  · rw [e1, e2]; exact hst.begin hat
  · rw [e1, e2]; simp only [List.length_append, List.length_singleton] at *; omega
  · rw [e1]; simp only [List.length_append] at *; omega

theorem lp_ended {r : Rx} {u : List UInt8} {τ root base R : Nat} {g0 g : Gh} {w w1 w2 : World} {e : Ending} {gk b : Nat} {p : Path} {ex : Rx} {Bl El Sl : List Nat} {PB PE PS XB XE : List Path} (hb : Fr base w w1) (hst : St r u τ g.bg (upd g.en p τ) (PB ++ XB) (PE ++ XE) PS) (ob : On g Bl PB) (oe : On g El PE) (os : On g Sl PS) (hg0 : ∀ p c, g0.σ p = some c → g.σ p = some c) (hk : gk = Bl.length + (El ++ [b]).length + 4 * (cnt g.bg τ r.all + cnt g.en τ r.all)) (hk2 : gk ≤ 1000000) (hk3 : Sl.length + cnt g.bg τ r.all ≤ r.size) (hat : r.at p = some ex) (hne : g.en p ≠ τ) (hx : XB.length + XE.length ≤ 1)
    (h : StepTo r ⟨g.σ, g.bg, upd g.en p τ⟩ root base R τ Bl El Sl XB XE [] w1 e w2) : ∃ k, k < gk ∧ LpAt r u τ root base R g0 w k w2 := by
  obtain ⟨_, bv, ev, sv, g', NB, NE, NS, h1, h2, h3, h4, h5, h6, h7⟩ := h
  have c1 := cnt_upd g.en p τ r.all (Rx.at_all r p ex hat) hne
  have n1 := on_len h5; have n2 := on_len h6; have n3 := on_len h7
  have e1 : g'.bg = g.bg := h4.1
  have e2 : g'.en = upd g.en p τ := h4.2
  have hgg : ∀ p c, g.σ p = some c → g'.σ p = some c := fun q c hc => h4.3 q c hc
  refine ⟨(Bl ++ NB).length + (El ++ NE).length + 4 * (cnt g'.bg τ r.all + cnt g'.en τ r.all), ?_, bv, ev, sv, g', _, _, _, PB ++ XB, PE ++ XE, PS ++ [], h1, h2, hb.trans h3, ?_, on_append (on_grow ob hgg) h5, on_append (on_grow oe hgg) h6, on_append (on_grow os hgg) h7, fun q c hc => hgg q c (hg0 q c hc), rfl, ?_, ?_⟩
  · rw [e1, e2, hk]; simp only [List.length_append, List.length_singleton]; omega
  · rw [e1, e2, List.append_nil]; exact hst
  · rw [e1, e2]; simp only [List.length_append, List.length_singleton] at *; omega
  · rw [e1]; simp only [List.length_append, List.length_nil] at *; omega

/-- What settle leaves. -/
def Settled (r : Rx) (u : List UInt8) (τ root base R : Nat) (g0 : Gh) (w w' : World) : Prop :=
  ∃ bv ev sv g Sl PS, RnAt w' base R τ bv ev sv [] [] Sl ∧ SpAt w' r g root ∧ Fr base w w' ∧ St r u τ g.bg g.en [] [] PS ∧ On g Sl PS ∧ (∀ p c, g0.σ p = some c → g.σ p = some c) ∧ Sl.length ≤ r.size

theorem settled_drewN {r : Rx} {u : List UInt8} {τ root base R : Nat} {g0 : Gh} {w w' : World} (h : Settled r u τ root base R g0 w w') (n : Nat) : Settled r u τ root base R g0 w (w'.drewN n) := by
  obtain ⟨bv, ev, sv, g, Sl, PS, hr, hs, hb, hst, os, hg0, hl⟩ := h
  exact ⟨bv, ev, sv, g, Sl, PS, rn_below hr (below_drewN _ _ n), hs.below (below_drewN _ _ n), hb.drewN n, hst, os, hg0, hl⟩
theorem sp_cells {w : World} {r : Rx} {g : Gh} {root b : Nat} {p : Path} (h : SpAt w r g root) (hb : g.σ p = some b) : w.cell? ⟨b, 4, none⟩ = some (.int .i64 (g.bg p)) ∧ w.cell? ⟨b, 5, none⟩ = some (.int .i64 (g.en p)) ∧ w.frozen? ⟨b, 4, none⟩ = false ∧ w.frozen? ⟨b, 5, none⟩ = false ∧ b < w.heap.size := by
  obtain ⟨e, nb, _, _, h3⟩ := h.at' p b hb
  unfold SpB at h3
  exact ⟨by rw [Lib.cell_of_heap h3]; rfl, by rw [Lib.cell_of_heap h3]; rfl, Lib.frozen_of_heap h3 4, Lib.frozen_of_heap h3 5, lt_of_heap h3⟩
theorem rn_c0 {w : World} {base R τ : Nat} {bv ev sv : Value} {Bl El Sl : List Nat} (hr : RnAt w base R τ bv ev sv Bl El Sl) : w.cell? ⟨R, 0, none⟩ = some (.int .i64 τ) := by rw [Lib.cell_of_heap hr.blk]; rfl

set_option maxRecDepth 100000 in
set_option maxHeartbeats 4000000 in
theorem settle_any (r : Rx) (u : List UInt8) (τ root base R : Nat) (g0 : Gh) (w : World) (n0 : Nat) (h0 : LpAt r u τ root base R g0 w n0 w) (hbase : base ≤ w.heap.size) (hbR : base ≤ R) (hroot : base ≤ root) (_hτ : τ ≤ 1000000) (hsz : r.size ≤ 16384) :
    Calls Try.prog 28 #[ptr R] w fun e w' => e = .returned (.tuple #[]) ∧ Settled r u τ root base R g0 w w' := by
  have H0 := Lib.hid h0; clear h0
  go_enter Try.func28, Try.ntmps28
  go_wp2_with fail
  go_loopg [] n0 (fun k wr => LpAt r u τ root base R g0 w k wr)
  case atStart => exact H0.out
  case round =>
    obtain ⟨bv, ev, sv, g, Bl, El, Sl, PB, PE, PS, hr, hs, hb, hst, ob, oe, os, hg0, hk, hk2, hk3⟩ := hrel
    have hbw : base ≤ wr.heap.size := Nat.le_trans hbase hb.size
    have r0 := rn_c0 hr
    have r1 := rn_c1 hr
    have r2 := rn_c2 hr
    obtain ⟨A1, c1, e1, hA1, hA2⟩ := own_form hr.bo
    obtain ⟨A2, c2, e2, hA3, hA4⟩ := own_form hr.eo
    obtain ⟨nb, hnb⟩ : ∃ nb, nb = Bl.length := ⟨_, rfl⟩
    obtain ⟨ne, hne⟩ : ∃ ne, ne = El.length := ⟨_, rfl⟩
    have hlb : nb ≤ 1000000 := by omega
    have hle : ne ≤ 1000000 := by omega
    rw [e1, ← hnb] at r1
    rw [e2, ← hne] at r2
    clear e1 e2 hA1 hA2 hA3 hA4
    rcases List.eq_nil_or_concat El with rfl | ⟨E0, x, rfl⟩
    · rcases List.eq_nil_or_concat Bl with rfl | ⟨B0, x, rfl⟩
      · obtain rfl := on_nil ob
        obtain rfl := on_nil oe
        have HH := Lib.hid (show Settled r u τ root base R g0 w wr from ⟨_, _, _, g, Sl, PS, hr, hs, hb, hst, os, hg0, by omega⟩)
        rw [hnb] at r1; rw [hne] at r2
        have r1' : wr.cell? ⟨R, 1, none⟩ = some (.slice A1 0 c1) := r1
        have r2' : wr.cell? ⟨R, 2, none⟩ = some (.slice A2 0 c2) := r2
        clear hr hs hb hst ob oe os hg0 hk hk2 hk3 r1 r2 hnb hne hlb hle
        go_wp2_with fail
        go_quiet (fail)
        go_wp2
        go_end0
        exact ⟨rfl, settled_drewN HH.out nq⟩
      · rw [List.concat_eq_append] at *
        have hnb0 : (0 : Int) < nb := by rw [hnb, List.length_append, List.length_singleton]; omega
        rw [hne] at r2
        have r2' : wr.cell? ⟨R, 2, none⟩ = some (.slice A2 0 c2) := r2
        obtain ⟨P0, p, rfl, ob0, hp⟩ := on_snoc ob
        obtain ⟨ex, _, hat, _, _⟩ := hs.at' _ _ hp
        have HH := Lib.hid (And.intro hr (And.intro hs (And.intro hb (And.intro hst (And.intro ob0 (And.intro oe (And.intro os (And.intro hg0 (And.intro hk (And.intro hk2 (And.intro hk3 (And.intro hp hat))))))))))))
        clear hr hs hb hst ob ob0 oe os hg0 hk hk2 hk3 r2 hnb hne hle hp hat
        go_wp2_with fail
        go_quiet (fail)
        go_wp2_with fail
        have hbd : Below wr.heap.size wr (wr.drewN nq) := below_drewN _ wr nq
        generalize hw1 : wr.drewN nq = w1 at hbd ⊢
        clear hw1
        have HR1 := Lib.hid (rn_below HH.out.1 hbd)
        have HS1 := Lib.hid (HH.out.2.1.below hbd)
        have HB1 := Lib.hid (HH.out.2.2.1.trans (Fr.of_below hbw hbd))
        have hw1 : base ≤ w1.heap.size := Nat.le_trans hbw hbd.size
        clear r0 r1 r2' hbd
        refine (pop_el0 w1 base R τ _ _ sv _ Sl HR1.out).mono ?_
        rintro e w1' ⟨rfl, rfl⟩
        go_wp2_with fail
        refine (pop_bl w1' r g root base R τ x _ _ sv B0 [] Sl HS1.out HR1.out hw1 hbR).mono ?_
        rintro e w2 ⟨rfl, v', hr2, hs2, hb2⟩
        have r0 := rn_c0 hr2
        obtain ⟨x4, _, x4f, _, hxl⟩ := sp_cells hs2 HH.out.2.2.2.2.2.2.2.2.2.2.2.1
        have hw2 : base ≤ w2.heap.size := Nat.le_trans hw1 hb2.size
        have HR2 := Lib.hid hr2; have HS2 := Lib.hid hs2; have HB2 := Lib.hid (HB1.out.trans hb2)
        clear hr2 hs2 hb2
        by_cases hbg : g.bg p = τ
        · have HG := Lib.hid hbg
          rw [hbg] at x4
          clear hbg
          go_wp2_with fail
          go_quiet (fail)
          go_wp2
          obtain ⟨_, _, _, hst, ob0, oe, os, hg0, hk, hk2, hk3, hp, hat⟩ := HH.out
          go_roundg (gk - 1)
          case measure => simp only [List.length_append, List.length_singleton] at hk; omega
          case rel =>
            simp only [List.length_append, List.length_singleton, List.length_nil] at hk
            exact ⟨_, _, _, g, B0, [], Sl, P0, PE, PS, rn_below HR2.out (below_drewN _ _ nq), HS2.out.below (below_drewN _ _ nq), HB2.out.drewN nq, hst.popB HG.out, ob0, oe, os, hg0, by simp only [List.length_nil]; omega, by omega, hk3⟩
        · have hbgi : ((g.bg p : Nat) : Int) ≠ (τ : Int) := by omega
          have HG := Lib.hid hbg
          generalize g.bg p = bp at x4 hbgi
          clear hbg
          go_wp2_with fail
          go_quiet (fail)
          go_wp2_with fail
          obtain ⟨_, _, _, hst, ob0, oe, os, hg0, hk, hk2, hk3, hp, hat⟩ := HH.out
          have hs3 := (sp_set (HS2.out.below (below_drewN _ _ nq)) hp τ).1
          have hr3 := rn_keep (rn_below HR2.out (below_drewN _ _ nq)) (Kb.setCell (w2.drewN nq) ⟨x, 4, none⟩ (.int .i64 τ)) (sp_ty (HS2.out.below (below_drewN _ _ nq)) hp)
          have hx : base ≤ x := Nat.le_trans hroot (HS2.out.low p x root HS2.out.root hp)
          have hb3 : Fr base w ((w2.drewN nq).setCell ⟨x, 4, none⟩ (.int .i64 τ)) := (HB2.out.drewN nq).trans (Fr.of_part (Kb.setCell (w2.drewN nq) ⟨x, 4, none⟩ (.int .i64 τ)) hw2 hx (sp_ty (HS2.out.below (below_drewN _ _ nq)) hp))
          have hw3 : base ≤ ((w2.drewN nq).setCell ⟨x, 4, none⟩ (.int .i64 τ)).heap.size := Nat.le_trans hbase hb3.size
          have hlen : B0.length ≤ 1048576 ∧ Sl.length ≤ 1048576 := by simp only [List.length_append, List.length_singleton, List.length_nil] at hk; omega
          refine (begin_any _ r ⟨g.σ, upd g.bg p τ, g.en⟩ root base R τ x p ex _ _ sv B0 [] Sl hs3 hr3 hp hat hw3 hbR hroot hlen.1 (by simp) hlen.2).mono ?_
          rintro e w4 hstep
          obtain ⟨kk, hkk, hll⟩ := lp_begun hb3 hst ob0 oe os hg0 hk hk2 hk3 hat HG.out hstep
          obtain ⟨rfl, _⟩ := hstep
          have HL := Lib.hid hll
          clear hs3 hr3 hb3 hw3 hlen hst ob0 oe os hg0 hk hk2 hk3 hp hat hll x4 x4f r0
          go_wp2
          go_roundg kk
          case measure => exact hkk
          case rel => exact HL.out
    · rw [List.concat_eq_append] at *
      have hne0 : (0 : Int) < ne := by rw [hne, List.length_append, List.length_singleton]; omega
      obtain ⟨P0, p, rfl, oe0, hp⟩ := on_snoc oe
      obtain ⟨ex, _, hat, _, _⟩ := hs.at' _ _ hp
      have hsum : (0 : Int) < (nb : Int) + ne := by omega
      have hwrap : IntKind.i64.wrap ((nb : Int) + ne) = (nb : Int) + ne := IntWalk.i64_in _ (by omega)
      have HH := Lib.hid (And.intro hr (And.intro hs (And.intro hb (And.intro hst (And.intro ob (And.intro oe0 (And.intro os (And.intro hg0 (And.intro hk (And.intro hk2 (And.intro hk3 (And.intro hp hat))))))))))))
      clear hr hs hb hst ob oe0 oe os hg0 hk hk2 hk3 hnb hne hp hat
      go_wp2_with fail
      go_quiet (fail)
      go_wp2_with fail
      have hbd : Below wr.heap.size wr (wr.drewN nq) := below_drewN _ wr nq
      generalize hw1 : wr.drewN nq = w1 at hbd ⊢
      clear hw1
      have HR1 := Lib.hid (rn_below HH.out.1 hbd)
      have HS1 := Lib.hid (HH.out.2.1.below hbd)
      have HB1 := Lib.hid (HH.out.2.2.1.trans (Fr.of_below hbw hbd))
      have hw1 : base ≤ w1.heap.size := Nat.le_trans hbw hbd.size
      clear r0 r1 r2 hbd
      refine (pop_el w1 r g root base R τ x _ _ sv Bl E0 Sl HS1.out HR1.out hw1 hbR).mono ?_
      rintro e w2 ⟨rfl, v', hr2, hs2, hb2⟩
      have r0 := rn_c0 hr2
      obtain ⟨_, x4, _, x4f, hxl⟩ := sp_cells hs2 HH.out.2.2.2.2.2.2.2.2.2.2.2.1
      have hw2 : base ≤ w2.heap.size := Nat.le_trans hw1 hb2.size
      have HR2 := Lib.hid hr2; have HS2 := Lib.hid hs2; have HB2 := Lib.hid (HB1.out.trans hb2)
      clear hr2 hs2 hb2
      by_cases hbg : g.en p = τ
      · have HG := Lib.hid hbg
        rw [hbg] at x4
        clear hbg
        go_wp2_with fail
        go_quiet (fail)
        go_wp2
        obtain ⟨_, _, _, hst, ob0, oe, os, hg0, hk, hk2, hk3, hp, hat⟩ := HH.out
        go_roundg (gk - 1)
        case measure => simp only [List.length_append, List.length_singleton] at hk; omega
        case rel =>
          simp only [List.length_append, List.length_singleton] at hk
          exact ⟨_, _, _, g, Bl, E0, Sl, PB, P0, PS, rn_below HR2.out (below_drewN _ _ nq), HS2.out.below (below_drewN _ _ nq), HB2.out.drewN nq, hst.popE HG.out, ob0, oe, os, hg0, by omega, by omega, hk3⟩
      · have hbgi : ((g.en p : Nat) : Int) ≠ (τ : Int) := by omega
        have HG := Lib.hid hbg
        generalize g.en p = bp at x4 hbgi
        clear hbg
        go_wp2_with fail
        go_quiet (fail)
        go_wp2_with fail
        obtain ⟨_, _, _, hst, ob0, oe, os, hg0, hk, hk2, hk3, hp, hat⟩ := HH.out
        have hs3 := (sp_set (HS2.out.below (below_drewN _ _ nq)) hp τ).2
        have hr3 := rn_keep (rn_below HR2.out (below_drewN _ _ nq)) (Kb.setCell (w2.drewN nq) ⟨x, 5, none⟩ (.int .i64 τ)) (sp_ty (HS2.out.below (below_drewN _ _ nq)) hp)
        have hx : base ≤ x := Nat.le_trans hroot (HS2.out.low p x root HS2.out.root hp)
        have hb3 : Fr base w ((w2.drewN nq).setCell ⟨x, 5, none⟩ (.int .i64 τ)) := (HB2.out.drewN nq).trans (Fr.of_part (Kb.setCell (w2.drewN nq) ⟨x, 5, none⟩ (.int .i64 τ)) hw2 hx (sp_ty (HS2.out.below (below_drewN _ _ nq)) hp))
        have hw3 : base ≤ ((w2.drewN nq).setCell ⟨x, 5, none⟩ (.int .i64 τ)).heap.size := Nat.le_trans hbase hb3.size
        have hlen : Bl.length ≤ 1048576 ∧ E0.length ≤ 1048576 := by simp only [List.length_append, List.length_singleton] at hk; omega
        have HC : Calls Try.prog 51 #[ptr R, ptr x] ((w2.drewN nq).setCell ⟨x, 5, none⟩ (.int .i64 τ)) fun e w4 => e = .returned (.tuple #[]) ∧ ∃ kk, kk < gk ∧ LpAt r u τ root base R g0 w kk w4 := by
          rcases p with _ | ⟨k, q⟩
          · have hxr : x = root := by have := HS2.out.root; rw [hp] at this; injection this
            subst hxr
            refine (end_top _ r ⟨g.σ, g.bg, upd g.en [] τ⟩ x base R τ _ _ sv Bl E0 Sl hs3 hr3 hw3 hbR).mono ?_
            rintro e w4 hstep
            exact ⟨hstep.1, lp_ended (XB := []) (XE := []) hb3 (by rw [List.append_nil, List.append_nil]; exact hst.endTop) ob0 oe os hg0 hk hk2 hk3 hat HG.out (by simp) hstep⟩
          · obtain ⟨bu, hbu⟩ := HS2.out.par _ _ _ hp
            obtain ⟨eu, _, hau, _, _⟩ := HS2.out.at' _ _ hbu
            have hk2' : k < 2 := by
              have h' := hat
              rw [Rx.at_cons, hau] at h'
              rcases k with _ | _ | k
              · omega
              · omega
              · cases eu <;> simp [Rx.kid] at h'
            refine (end_part _ r ⟨g.σ, g.bg, upd g.en (k :: q) τ⟩ root base R τ x k q eu _ _ sv Bl E0 Sl hs3 hr3 hp hau hk2' hw3 hbR hroot hlen.1 hlen.2).mono ?_
            rintro e w4 hstep
            exact ⟨hstep.1, lp_ended hb3 (hst.endPart hk2' hau ⟨_, hat⟩) ob0 oe os hg0 hk hk2 hk3 hat HG.out (endB_len eu k q) hstep⟩
        refine HC.mono ?_
        rintro e w4 ⟨rfl, kk, hkk, hll⟩
        have HL := Lib.hid hll
        clear hs3 hr3 hb3 hw3 hlen hst ob0 oe os hg0 hk hk2 hk3 hp hat hll x4 x4f r0 HC
        go_wp2
        go_roundg kk
        case measure => exact hkk
        case rel => exact HL.out
end Go.Proofs.Ytejdfpieblkapaa

/- What read does: a byte is read, and all that follows. -/
namespace Go.Proofs.Ytejdfpieblkapaa
open Go.RowKit

theorem and1 (x : Nat) : bits .and .u64 (x : Int) 1 = ((x % 2 : Nat) : Int) := by
  have h1 : (BitVec.ofInt 64 (x : Int)).toNat = x % 2 ^ 64 := by
    rw [BitVec.ofInt_natCast, BitVec.toNat_ofNat]
  have h3 : (BitVec.ofInt 64 (1 : Int)).toNat = 1 := by decide
  show IntKind.u64.wrap ((BitVec.ofInt 64 (x : Int) &&& BitVec.ofInt 64 (1 : Int)).toNat : Int) = _
  rw [BitVec.toNat_and, h1, h3, Nat.and_two_pow_sub_one_eq_mod _ 1]
  rw [IntKind.wrap_u64]
  omega

theorem on_get {g : Gh} : ∀ {l : List Nat} {ps : List Path} {k x : Nat}, On g l ps → l[k]? = some x → ∃ p, ps[k]? = some p ∧ g.σ p = some x := by
  intro l ps k x h hx
  have : (l.map some)[k]? = some (some x) := by rw [List.getElem?_map, hx]; rfl
  rw [h, List.getElem?_map] at this
  obtain ⟨p, hp, hh⟩ := Option.map_eq_some_iff.1 this
  exact ⟨p, hp, hh⟩
theorem own_get {w : World} {base n : Nat} {A : Option Addr} {c i : Nat} {xs : List Value} {x : Value} (h : w.ownsRow base 64 1 (.slice A n c) n xs) (hi : xs[i]? = some x) : ∃ g, A = some ⟨g, 0, none⟩ ∧ w.cell? ⟨g, i, none⟩ = some x ∧ c ≤ 9223372036854775807 := by
  rcases h.2 with ⟨hv, hn⟩ | ⟨g, cap, cur, hv, hb, hh, h1, h2, h3, h4⟩
  · have := h.1
    rw [hn] at this
    have : xs = [] := List.length_eq_zero_iff.1 (by omega)
    subst this; simp at hi
  · injection hv with e1 e2 e3
    refine ⟨g, e1, ?_, by unfold maxLen at h2; omega⟩
    rw [Lib.cell_of_heap hh]
    rw [← h4] at hi
    have hlt : i < n * 1 := by
      have := (List.getElem?_eq_some_iff.1 hi).1
      rw [List.length_take] at this
      omega
    rw [List.getElem?_take_of_lt hlt] at hi
    simpa using hi
theorem own_zero {w : World} {base n c m : Nat} {A : Option Addr} {xs : List Value} (h : w.ownsRow base 64 1 (.slice A n c) m xs) : w.ownsRow base 64 1 (.slice A 0 c) ([] : List Nat).length (([] : List Nat).map ptr) := by
  refine ⟨rfl, ?_⟩
  rcases h.2 with ⟨hv, hn⟩ | ⟨g, cap, cur, hv, hb, hh, h1, h2, h3, h4⟩
  · injection hv with e1 e2 e3
    exact .inl ⟨by rw [e1, e3], rfl⟩
  · injection hv with e1 e2 e3
    exact .inr ⟨g, cap, cur, by rw [e1, e3]; rfl, hb, hh, Nat.zero_le _, h2, h3, by simp⟩
theorem clear_none (w : World) : (Builtin.clear_ #[71] 0 #[.map none]).run Try.prog w = .ok (.tuple #[]) w := by
  simp [Builtin.clear_, run_underlying Try.underlying71, Result.andThen]
theorem set_cell {w : World} {s : Ws} {nb j : Nat} (h : NdAt w (.set s) nb) (hj : j < 4) : w.cell? ⟨nb, 1 + j, none⟩ = some (.int .u64 (s.word j)) := by
  have h' : NdB w (.set s) nb (.slice none 0 0) := h
  unfold NdB at h'
  rw [Lib.cell_of_heap h']
  rcases (show j = 0 ∨ j = 1 ∨ j = 2 ∨ j = 3 by omega) with rfl | rfl | rfl | rfl <;> rfl

set_option maxRecDepth 100000 in
set_option maxHeartbeats 4000000 in
theorem read_any (r : Rx) (u : List UInt8) (c : UInt8) (τ root base R : Nat) (g : Gh) (w : World) (bv ev sv : Value) (Sl : List Nat) (PS : List Path) (hr : RnAt w base R τ bv ev sv [] [] Sl) (hs : SpAt w r g root) (hst : St r u τ g.bg g.en [] [] PS) (os : On g Sl PS) (hl : Sl.length ≤ r.size) (hbase : base ≤ w.heap.size) (hbR : base ≤ R) (hroot : base ≤ root) (hτ : τ ≤ 900000) (hsz : r.size ≤ 16384) :
    Calls Try.prog 29 #[ptr R, .int .u8 c.toNat] w fun e w' => e = .returned (.tuple #[]) ∧ Settled r (c :: u) (τ + 1) root base R g w w' := by
  have r0 := rn_c0 hr
  have f0 : w.frozen? ⟨R, 0, none⟩ = false := Lib.frozen_of_heap hr.blk 0
  have hwr : IntKind.i64.wrap ((τ : Int) + 1) = ((τ + 1 : Nat) : Int) := by rw [IntWalk.i64_in _ (by omega)]; omega
  obtain ⟨a1, a2, a3⟩ := rn_set0 (τ' := τ + 1) hr hbR hbase
  have hs1 := hs.kr a2 ⟨_, hr.blk⟩
  have s3 := rn_c3 a1
  obtain ⟨A3, c3, e3, hA1, hA2⟩ := own_form hr.so
  obtain ⟨ns, hns⟩ : ∃ ns, ns = Sl.length := ⟨_, rfl⟩
  rw [← hns] at e3
  have HH := Lib.hid (And.intro a1 (And.intro hs1 (And.intro a3 (And.intro hst (And.intro os (And.intro hns (And.intro hl hsz)))))))
  subst e3
  generalize hτ1 : (((τ + 1 : Nat) : Int)) = τ1 at *
  have HT := Lib.hid hτ1
  clear hr hs hst os a1 a2 a3 hs1 hns hl hA1 hA2 hτ1
  obtain ⟨nc, hnc⟩ : ∃ nc, nc = c.toNat := ⟨_, rfl⟩
  rw [← hnc]
  have hnc2 : nc < 256 := by rw [hnc]; exact c.toNat_lt
  have HC := Lib.hid hnc
  clear hnc
  go_enter Try.func29, Try.ntmps29
  go_wp2_with fail
  generalize hw1 : w.setCell ⟨R, 0, none⟩ (.int .i64 τ1) = w1 at HH ⊢
  clear s3 r0 f0 hwr hw1
  go_loopw [18] (fun i wr => ∃ (k : Nat) (ev' : Value) (El : List Nat), k ≤ ns ∧ i = .int .i64 k ∧ Hid (RnAt wr base R (τ + 1) bv ev' (.slice A3 ns c3) [] El Sl ∧ SpAt wr r g root ∧ Fr base w wr ∧ On g El ((PS.take k).filter (hasAt r c)) ∧ El.length ≤ k)) (fun i _ => ns - (intOf i).toNat)
  case' round => have hns2 : ns ≤ 16384 := by have := HH.out.2.2.2.2.2; omega
  case atStart => exact ⟨0, ev, [], Nat.zero_le _, rfl, HH.out.1, HH.out.2.1, HH.out.2.2.1, rfl, Nat.le_refl _⟩
  case round =>
    obtain ⟨k, ev', El, hk, rfl, HL⟩ := hrel
    by_cases hlt : k < ns
    · obtain ⟨hr, hs, hb, oe, hel⟩ := HL.out
      obtain ⟨x, hx⟩ : ∃ x, Sl[k]? = some x := ⟨Sl[k]'(by rw [← HH.out.2.2.2.2.2.1]; exact hlt), List.getElem?_eq_getElem _⟩
      obtain ⟨p, hp, hpx⟩ := on_get HH.out.2.2.2.2.1 hx
      obtain ⟨_, s, hat⟩ := HH.out.2.2.2.1.qs p (List.mem_of_getElem? hp)
      obtain ⟨gS, hA3, hcell, hc3⟩ := own_get (own_len hr.so HH.out.2.2.2.2.2.1.symm) (i := k) (x := ptr x) (by rw [List.getElem?_map, hx]; rfl)
      subst hA3
      obtain ⟨e, nb, h1, h2, h3⟩ := hs.at' p x hpx
      rw [hat] at h1
      injection h1 with h1
      subst h1
      have x0 : wr.cell? ⟨x, 0, none⟩ = some (.pointer (some ⟨nb, 0, none⟩)) := by unfold SpB at h3; rw [Lib.cell_of_heap h3]; rfl
      have d1 : wr.cell? ⟨nb, 1 + nc / 64, none⟩ = some (.int .u64 (s.word (nc / 64))) := set_cell h2 (by omega)
      generalize hW : s.word (nc / 64) = W at d1
      have hki : (k : Int) < ns := by omega
      have hk0 : (0 : Int) ≤ k := by omega
      obtain ⟨eA, ec, he', hE1, hE2⟩ := own_form hr.eo
      obtain ⟨ne, hne⟩ : ∃ ne, ne = El.length := ⟨_, rfl⟩
      rw [← hne] at he' hE1
      subst he'
      have r2 := rn_c2 hr
      have HO := Lib.hid (own_len hr.eo hne.symm)
      have hRl := lt_of_heap hr.blk
      have hnel : ne ≤ 16384 := by have := HH.out.2.2.2.2.2; omega
      have hbw : base ≤ wr.heap.size := Nat.le_trans hbase hb.size
      obtain ⟨i0, hi0, hz0, hz1, hz2⟩ := info_parts Try.info64
      have HI := Lib.hid hi0; have HZ0 := Lib.hid hz0; have HZ1 := Lib.hid hz1; have HZ2 := Lib.hid hz2
      clear hi0 hz0 hz1 hz2
      have hbit : bits BinOp.and IntKind.u64 ((W : Int) / 2 ^ (nc % 64)) 1 = ((W / 2 ^ (nc % 64) % 2 : Nat) : Int) := by
        rw [← and1]; norm_cast
      have hhas : hasAt r c p = (W / 2 ^ (nc % 64) % 2 == 1) := by
        unfold hasAt; rw [hat]; show s.has c = _
        unfold Ws.has; rw [← HC.out, hW]
      have htk : PS.take (k + 1) = PS.take k ++ [p] := by
        rw [List.take_add_one, hp]; rfl
      rcases (show W / 2 ^ (nc % 64) % 2 = 1 ∨ W / 2 ^ (nc % 64) % 2 = 0 by omega) with hbb | hbb
      · rw [hbb] at hbit hhas
        have hbit' : bits BinOp.and IntKind.u64 ((W : Int) / 2 ^ (nc % 64)) 1 = 1 := hbit
        have HX := Lib.hid (And.intro hpx (And.intro hhas (And.intro htk hne)))
        clear hr hs hb oe hel h2 h3 hp hpx hat hx hW hbb hhas htk hne hbit
        go_wp2_with (at_builtin; refine wpList_append_lies _ rfl _ _ 66 rfl base 64 i0 _ 1 8 Try.underlying66 HI.out HZ0.out HZ1.out HZ2.out rfl (by omega) (.slice eA ne ec) ne _ rfl (HO.out.alloc _) ⟨wr.heap.size, 0, none⟩ 1 1 [ptr x] rfl rfl (World.news_of_block (cs := #[ptr x]) (t := 64) (fr := (0, 0)) (heap_alloc_new wr _)) (by simp [Value.oneCell']) (by omega) (by unfold maxLen; omega) (by omega) (by simp; omega) (wr.heap.size + 1) (by simp) ?_)
        intro gg cap6 w6 hown6 hgrow6 hat6 hlt6
        obtain ⟨hr, hs, hb, oe, hel⟩ := HL.out
        have hg6 := grown_kb hgrow6
        have hR6 := rn_blk_far hr.eo hr hg6
        have ef3 : w6.frozen? ⟨R, 2, none⟩ = false := Lib.frozen_of_heap hR6 2
        have ec3 : w6.cell? ⟨R, 2, none⟩ = some (.slice eA ne ec) := by rw [Lib.cell_of_heap hR6]; rfl
        have hll : (El ++ [x]).length = ne + 1 := by rw [List.length_append, HX.out.2.2.2]; rfl
        obtain ⟨a1, a2, a3⟩ := rn_push2 (new := [x]) hr hg6 (by rw [hll, List.map_append]; exact hown6) (hat6.elim (fun h => .inl (by rw [h]; rfl)) (fun h => .inr ⟨gg, rfl, by omega⟩)) hbR hbw
        have HN := Lib.hid (And.intro a1 (And.intro (hs.kr a2 ⟨_, hr.blk⟩) (hb.trans a3)))
        clear hr hs hb a1 a2 a3 hown6 hgrow6 hat6 hlt6 hg6 hR6 hll
        go_wp2
        go_roundw
        case rel => exact ⟨k + 1, _, El ++ [x], by omega, by go_num, HN.out.1, HN.out.2.1, HN.out.2.2, by rw [HX.out.2.2.1, List.filter_append, List.filter_cons, HX.out.2.1]; exact on_append oe (by simp [On, HX.out.1]), by rw [List.length_append, List.length_singleton]; omega⟩
        case measure => simp [intOf]; omega
      · rw [hbb] at hbit hhas
        have hbit' : bits BinOp.and IntKind.u64 ((W : Int) / 2 ^ (nc % 64)) 1 = 0 := hbit
        have HX := Lib.hid (And.intro hpx (And.intro hhas htk))
        clear hr hs hb oe hel h2 h3 hp hpx hat hx hW hbb hhas htk hne hbit
        go_wp2
        go_roundw
        case rel =>
          obtain ⟨hr, hs, hb, oe, hel⟩ := HL.out
          exact ⟨k + 1, _, El, by omega, by go_num, hr, hs, hb, by rw [HX.out.2.2, List.filter_append, List.filter_cons, HX.out.2.1]; simpa using oe, by omega⟩
        case measure => simp [intOf]; omega
    · obtain rfl : k = ns := by omega
      obtain ⟨hr, hs, hb, oe, hel⟩ := HL.out
      have s3 := rn_c3 hr
      have s5 : wr.cell? ⟨R, 5, none⟩ = some (.map none) := by rw [Lib.cell_of_heap hr.blk]; rfl
      have f3 : wr.frozen? ⟨R, 3, none⟩ = false := Lib.frozen_of_heap hr.blk 3
      have hbw : base ≤ wr.heap.size := Nat.le_trans hbase hb.size
      obtain ⟨a1, a2, a3⟩ := rn_set3 (Sl' := []) hr (own_zero hr.so) (by cases A3 <;> rfl) hbR hbw
      have hs2 := hs.kr a2 ⟨_, hr.blk⟩
      have t5 : (wr.setCell ⟨R, 3, none⟩ (.slice A3 0 c3)).cell? ⟨R, 5, none⟩ = some (.map none) := by rw [Lib.cell_of_heap a1.blk]; rfl
      have htk : PS.take k = PS := List.take_of_length_le (by rw [← on_len HH.out.2.2.2.2.1, ← HH.out.2.2.2.2.2.1]; exact Nat.le_refl _)
      rw [htk] at oe
      have hst := HH.out.2.2.2.1.read c
      have hcb := cnt_le g.bg (τ + 1) r.all
      have hce := cnt_le g.en (τ + 1) r.all
      rw [Rx.all_length] at hcb hce
      have hkk : k ≤ r.size := by have := HH.out.2.2.2.2.2; omega
      have hw2 : base ≤ (wr.setCell ⟨R, 3, none⟩ (.slice A3 0 c3)).heap.size := Nat.le_trans hbw a3.size
      have HC2 := Lib.hid (settle_any r (c :: u) (τ + 1) root base R g _ (0 + El.length + 4 * (cnt g.bg (τ + 1) r.all + cnt g.en (τ + 1) r.all)) ⟨_, _, _, g, [], El, [], [], _, [], a1, hs2, Fr.refl _ _, hst, rfl, oe, rfl, fun _ _ h => h, rfl, by omega, by simp only [List.length_nil]; omega⟩ hw2 hbR hroot (by omega) hsz)
      have HB2 := Lib.hid (hb.trans a3)
      clear hr hs hb oe hel a1 a2 a3 hs2 hst hcb hce hkk htk hw2
      have hclr : ∀ w' : World, (Builtin.clear_ #[71] 0 #[.map none]).run Try.prog w' = .ok (.tuple #[]) w' := clear_none
      go_wp2_with fail
      refine HC2.out.mono ?_
      rintro e w3 ⟨rfl, bv', ev2, sv', g', Sl', PS', q1, q2, q3, q4, q5, q6, q7⟩
      have HF := Lib.hid (show Settled r (c :: u) (τ + 1) root base R g w w3 from ⟨bv', ev2, sv', g', Sl', PS', q1, q2, HB2.out.trans q3, q4, q5, q6, q7⟩)
      clear q1 q2 q3 q4 q5 q6 q7
      go_wp2
      go_end0
      exact ⟨rfl, HF.out⟩
end Go.Proofs.Ytejdfpieblkapaa

/- What Matches answers, of an expression of at most 16384 nodes. -/
namespace Go.Proofs.Ytejdfpieblkapaa
open Go.RowKit

theorem matches_nil (w : World) (s : ByteArray) : Calls Try.prog 10 #[.pointer none, .string s] w fun e w' => e = .returned (.bool false) ∧ w' = w := by
  go_enter Try.func10, Try.ntmps10
  go_wp2
  go_ret
  exact ⟨rfl, rfl⟩

theorem settled_below {r : Rx} {u : List UInt8} {τ root base R : Nat} {g0 : Gh} {w w' w2 : World} (h : Settled r u τ root base R g0 w w') (hb : Below w'.heap.size w' w2) (hB : base ≤ w'.heap.size) : Settled r u τ root base R g0 w w2 := by
  obtain ⟨bv, ev, sv, g, Sl, PS, hr, hs, hf, hst, os, hg0, hl⟩ := h
  exact ⟨bv, ev, sv, g, Sl, PS, rn_below hr hb, hs.below hb, hf.trans (Fr.of_below hB hb), hst, os, hg0, hl⟩
/-- '[]byte(s)': a new block with just these bytes. -/
theorem conv_bytes (s : ByteArray) (w : World) (hs : s.size ≤ 1099511627776) : ∃ cp w1, (convert 9 75 (.string s)).run Try.prog w = .ok (.slice (some ⟨w.heap.size, 0, none⟩) s.size cp) w1 ∧ s.size ≤ cp ∧ cp ≤ 9223372036854775807 ∧ Below w.heap.size w w1 ∧
    ∃ C fz, w1.heap[w.heap.size]? = some (.cells C 5 fz) ∧ ∀ (i : Nat) (b : UInt8), s.data.toList[i]? = some b → C[i]? = some (.int .u8 b.toNat) := by
  refine ⟨_, _, run_bytes_of_string w 9 75 5 s Try.underlying9 Try.underlying75 Try.underlying5, grownCap_ge _ _ _ _, ?_, (Below.refl _ w).drew.alloc (Nat.le_refl _) _, ?_⟩
  · have := grownCap_le_maxLen w s.size 0 5 (by unfold maxLen; omega); unfold maxLen at this; omega
  · refine ⟨bytesRow s (grownCap w s.size 0 5), ((bytesRow s (grownCap w s.size 0 5)).size, (bytesRow s (grownCap w s.size 0 5)).size + 1), ?_, ?_⟩
    · show (w.heap.push _)[w.heap.size]? = _
      simp
    · intro i b hb
      obtain ⟨hlt, hget⟩ := List.getElem?_eq_some_iff.1 hb
      have hlt' : i < s.data.size := by simpa using hlt
      have h1 := bytesRow_at s (grownCap w s.size 0 5) i hlt'
      simp at hget
      rw [hget] at h1
      exact h1

/-- What Matches lays at first: the whole's spot, a list of it, the run. -/
def mW (w : World) (nb : Nat) : World := ((w.alloc (.cells #[ptr nb, .pointer none, .pointer none, .pointer none, .int .i64 0, .int .i64 0, .slice none 0 0] 68)).alloc (.cells #[.pointer (some ⟨w.heap.size, 0, none⟩)] 64)).alloc (.cells #[.int .i64 1, .slice (some ⟨w.heap.size + 1, 0, none⟩) 1 1, .slice none 0 0, .slice none 0 0, .map none, .map none] 73)
def g1 (b : Nat) : Gh := ⟨fun p => if p = [] then some b else none, fun _ => 0, fun _ => 0⟩

theorem mW_at {w : World} {r : Rx} {nb : Nat} (hn : NdAt w r nb) : RnAt (mW w nb) w.heap.size (w.heap.size + 1 + 1) 1 (.slice (some ⟨w.heap.size + 1, 0, none⟩) 1 1) (.slice none 0 0) (.slice none 0 0) [w.heap.size] [] [] ∧ SpAt (mW w nb) r (g1 w.heap.size) w.heap.size ∧ Below w.heap.size w (mW w nb) := by
  have hb : Below w.heap.size w (mW w nb) := (((Below.refl _ w).alloc (Nat.le_refl _) _).alloc (by simp) _).alloc (by simp; omega) _
  have h0 : (mW w nb).heap[w.heap.size]? = some (.cells #[ptr nb, .pointer none, .pointer none, .pointer none, .int .i64 0, .int .i64 0, .slice none 0 0] 68 (0, 0)) := by
    unfold mW
    rw [Below.heap_alloc _ _ _ (by simp; omega), Below.heap_alloc _ _ _ (by simp)]
    exact heap_alloc_new w _
  have h1 : (mW w nb).heap[w.heap.size + 1]? = some (.cells #[.pointer (some ⟨w.heap.size, 0, none⟩)] 64 (0, 0)) := by
    unfold mW
    rw [Below.heap_alloc _ _ _ (by simp)]
    have := heap_alloc_new (w.alloc (.cells #[ptr nb, .pointer none, .pointer none, .pointer none, .int .i64 0, .int .i64 0, .slice none 0 0] 68)) (.cells #[.pointer (some ⟨w.heap.size, 0, none⟩)] 64)
    simpa using this
  have h2 : (mW w nb).heap[w.heap.size + 1 + 1]? = some (.cells #[.int .i64 1, .slice (some ⟨w.heap.size + 1, 0, none⟩) 1 1, .slice none 0 0, .slice none 0 0, .map none, .map none] 73 (0, 0)) := by
    unfold mW
    have := heap_alloc_new ((w.alloc (.cells #[ptr nb, .pointer none, .pointer none, .pointer none, .int .i64 0, .int .i64 0, .slice none 0 0] 68)).alloc (.cells #[.pointer (some ⟨w.heap.size, 0, none⟩)] 64)) (.cells #[.int .i64 1, .slice (some ⟨w.heap.size + 1, 0, none⟩) 1 1, .slice none 0 0, .slice none 0 0, .map none, .map none] 73)
    simpa using this
  refine ⟨⟨h2, ⟨rfl, .inr ⟨w.heap.size + 1, 1, _, rfl, by omega, h1, by simp, by unfold maxLen; omega, rfl, rfl⟩⟩, ⟨rfl, .inl ⟨rfl, rfl⟩⟩, ⟨rfl, .inl ⟨rfl, rfl⟩⟩, fun _ _ h => by simp [Value.ownBlock] at h, fun _ _ h => by simp [Value.ownBlock] at h, fun _ h => by simp [Value.ownBlock] at h⟩, ⟨by simp [g1], fun p b hp => ?_, fun k p b hp => by simp [g1] at hp, fun p q b hp hq => ?_, fun p _ => ⟨rfl, rfl⟩, fun p b b0 h0 hp => ?_⟩, hb⟩
  · have hp' : p = [] ∧ w.heap.size = b := by
      by_cases hp0 : p = []
      · simp [g1, hp0] at hp; exact ⟨hp0, hp⟩
      · simp [g1, hp0] at hp
    obtain ⟨rfl, rfl⟩ := hp'
    refine ⟨r, nb, rfl, hn.keep (KN.of_below hb), ?_⟩
    unfold SpB
    rw [h0]
    simp [g1, Gh.up, ptrO]
  · by_cases hp0 : p = []
    · by_cases hq0 : q = []
      · rw [hp0, hq0]
      · simp [g1, hq0] at hq
    · simp [g1, hp0] at hp
  · have a1 : w.heap.size = b0 := by simpa [g1] using h0
    by_cases hp0 : p = []
    · have a2 : w.heap.size = b := by simpa [g1, hp0] using hp
      omega
    · simp [g1, hp0] at hp

set_option maxRecDepth 100000 in
set_option maxHeartbeats 4000000 in
theorem matches_any (w : World) (r : Rx) (nb : Nat) (s : ByteArray) (hn : NdAt w r nb) (hsz : r.size ≤ 16384) (hs : s.size ≤ 800000) :
    Calls Try.prog 10 #[ptr nb, .string s] w fun e w' => (∃ b, e = .returned (.bool b) ∧ (b = true ↔ r.L s.data.toList)) ∧ Below w.heap.size w w' := by
  obtain ⟨L, hL⟩ : ∃ L, L = s.data.toList := ⟨_, rfl⟩
  have hlen : L.length = s.size := by rw [hL, ← Lib.size_eq]
  rw [← hL]
  have HLN := Lib.hid hlen; have HLL := Lib.hid hL
  clear hlen hL
  obtain ⟨A, n, hnb, _⟩ := hn.blk
  unfold NdB at hnb
  have hnl := lt_of_heap hnb
  obtain ⟨m1, m2, m3⟩ := mW_at hn
  have hnb3 := (m3.block nb hnl).trans hnb
  have c6 : (mW w nb).cell? ⟨nb, 6, none⟩ = some (.int .i64 r.size) := by rw [Lib.cell_of_heap hnb3]; rfl
  have hcb := cnt_le (g1 w.heap.size).bg 1 r.all
  have hce := cnt_le (g1 w.heap.size).en 1 r.all
  rw [Rx.all_length] at hcb hce
  have hsz3 : w.heap.size ≤ (mW w nb).heap.size := m3.size
  have HC := Lib.hid (settle_any r [] 1 w.heap.size w.heap.size (w.heap.size + 1 + 1) (g1 w.heap.size) (mW w nb) (1 + 0 + 4 * (cnt (g1 w.heap.size).bg 1 r.all + cnt (g1 w.heap.size).en 1 r.all)) ⟨_, _, _, g1 w.heap.size, [w.heap.size], [], [], [[]], [], [], m1, m2, Fr.refl _ _, St.first r, by simp [On, g1], rfl, rfl, fun _ _ h => h, rfl, by omega, by simp only [List.length_nil]; omega⟩ hsz3 (by omega) (Nat.le_refl _) (by omega) hsz)
  have hsz' : ¬ (16384 : Int) < r.size := by omega
  have HZ := Lib.hid hsz; have HM := Lib.hid m3
  clear hn hnb hsz hcb hce m1 m2 m3 hnb3 hsz3
  generalize hrs : r.size = rs at c6 hsz'
  clear hrs
  unfold mW at c6
  go_enter Try.func10, Try.ntmps10
  go_wp2_with fail
  refine HC.out.mono ?_
  rintro e w4 ⟨rfl, hset⟩
  obtain ⟨cp, w5, hconv, hc1, hc2, hb5, C, fz, hC, hcell⟩ := conv_bytes s w4 (by omega)
  have hset5 := settled_below hset hb5 (Nat.le_trans HM.out.size (by obtain ⟨_, _, _, _, _, _, _, _, hf, _⟩ := hset; exact hf.size))
  rw [← HLL.out] at hcell
  have H5 := Lib.hid hset5; have HCC := Lib.hid hC; have HCe := Lib.hid hcell
  clear hset5 hset hC hcell hb5 c6 hsz' HC
  go_wp2_with fail
  go_loopw [37] (fun i wr => ∃ k : Nat, k ≤ s.size ∧ i = .int .i64 k ∧ Hid (Settled r (L.take k).reverse (k + 1) w.heap.size w.heap.size (w.heap.size + 1 + 1) (g1 w.heap.size) (mW w nb) wr) ∧ Hid (wr.heap[w4.heap.size]? = some (.cells C 5 fz))) (fun i _ => s.size - (intOf i).toNat)
  case atStart => exact ⟨0, Nat.zero_le _, rfl, H5.out, HCC.out⟩
  case round =>
    obtain ⟨k, hk, rfl, HS, HK⟩ := hrel
    obtain ⟨bv, ev, sv, g, Sl, PS, hr, hs0, hf, hst, os, hg0, hsl⟩ := HS.out
    have hbw : w.heap.size ≤ wr.heap.size := Nat.le_trans HM.out.size hf.size
    by_cases hlt : k < s.size
    · obtain ⟨c, hc⟩ : ∃ c, L[k]? = some c := ⟨_, List.getElem?_eq_getElem (by rw [HLN.out]; exact hlt)⟩
      have hcc : wr.cell? ⟨w4.heap.size, k, none⟩ = some (.int .u8 c.toNat) := by
        rw [Lib.cell_of_heap HK.out]; exact HCe.out k c hc
      have r3 := rn_c3 hr
      obtain ⟨A3, c3, e3, _, _⟩ := own_form hr.so
      have hki : (k : Int) < s.size := by omega
      have hk0 : (0 : Int) ≤ k := by omega
      by_cases hs00 : Sl = []
      · subst hs00
        obtain rfl := on_nil os
        rw [e3] at r3
        have r3' : wr.cell? ⟨w.heap.size + 1 + 1, 3, none⟩ = some (.slice A3 0 c3) := r3
        have hno : ¬ r.L L := by
          have hd := hst.dead c (L.drop (k + 1))
          rw [List.reverse_reverse] at hd
          have : L = L.take k ++ c :: L.drop (k + 1) := by
            have h1 : L.drop k = c :: L.drop (k + 1) := by
              obtain ⟨hl, hg⟩ := List.getElem?_eq_some_iff.1 hc
              rw [← hg]; exact List.drop_eq_getElem_cons hl
            rw [← h1, List.take_append_drop]
          rw [this]; exact hd
        have HNO := Lib.hid hno; have HF := Lib.hid hf.below
        clear hno hr hs0 hf hst os hg0 hsl r3 hc
        go_wp2
        go_ret
        exact ⟨⟨false, rfl, by simp [HNO.out]⟩, HM.out.trans HF.out⟩
      · have hlen0 : Sl.length ≠ 0 := fun h => hs00 (List.length_eq_zero_iff.1 h)
        rw [e3] at r3
        obtain ⟨ns, hns⟩ : ∃ ns, ns = Sl.length := ⟨_, rfl⟩
        rw [← hns] at r3
        have hns0 : ((ns : Nat) : Int) ≠ 0 := by omega
        have hns1 : ns ≠ 0 := by omega
        have HC2 := Lib.hid (read_any r _ c (k + 1) w.heap.size w.heap.size (w.heap.size + 1 + 1) g wr bv ev sv Sl PS hr hs0 hst os hsl hbw (by omega) (Nat.le_refl _) (by omega) HZ.out)
        have htk : c :: (L.take k).reverse = (L.take (k + 1)).reverse := by
          rw [List.take_add_one, hc]; simp
        have HT := Lib.hid htk; have HF := Lib.hid hf; have HG := Lib.hid hg0
        clear hr hs0 hf hst os hg0 hsl hc htk hns e3 hlen0 hs00
        go_wp2_with fail
        refine HC2.out.mono ?_
        rintro e w6 ⟨rfl, bv', ev', sv', g', Sl', PS', q1, q2, q3, q4, q5, q6, q7⟩
        have HQ := Lib.hid (show Settled r (L.take (k + 1)).reverse (k + 1 + 1) w.heap.size w.heap.size (w.heap.size + 1 + 1) (g1 w.heap.size) (mW w nb) w6 from ⟨bv', ev', sv', g', Sl', PS', q1, q2, HF.out.trans q3, HT.out ▸ q4, q5, fun p x h => q6 p x (HG.out p x h), q7⟩)
        have HK6 := Lib.hid (q3.kx _ _ _ _ HK.out (by decide) (by decide) (by decide))
        clear q1 q2 q3 q4 q5 q6 q7
        go_wp2
        go_roundw
        case rel => exact ⟨k + 1, by omega, by go_num, HQ.out, HK6.out⟩
        case measure => simp [intOf]; omega
    · obtain rfl : k = s.size := by omega
      have htk : L.take s.size = L := List.take_of_length_le (by rw [HLN.out]; exact Nat.le_refl _)
      rw [htk] at hst
      obtain ⟨_, x5, _, _, hxl⟩ := sp_cells hs0 hs0.root
      have r0 := rn_c0 hr
      have hmm := hst.means
      have HMM := Lib.hid hmm; have HF := Lib.hid hf.below
      obtain ⟨en, hen⟩ : ∃ en, en = g.en [] := ⟨_, rfl⟩
      rw [← hen] at x5
      have HE := Lib.hid hen
      obtain ⟨τ1, hτ1⟩ : ∃ τ1, τ1 = s.size + 1 := ⟨_, rfl⟩
      rw [← hτ1] at r0
      have HT1 := Lib.hid hτ1
      clear hr hs0 hf hst os hg0 hsl hmm htk hen hτ1
      go_wp2_with fail
      go_quiet (fail)
      go_wp2
      go_ret
      refine ⟨⟨((en : Int) == (τ1 : Int)), rfl, ?_⟩, (HM.out.trans HF.out).trans (below_drewN _ _ nq)⟩
      rw [← HMM.out, ← HE.out, ← HT1.out, beq_iff_eq]
      omega
end Go.Proofs.Ytejdfpieblkapaa
