/- Lists of a run: a spot is taken off; a spot's times are set. -/
import Derived.Test.YtejdfpieblkapaaM11
import Derived.Deep.LoopGhost
namespace Go.Proofs.Ytejdfpieblkapaa
open Go.RowKit

theorem own_snoc {w : World} {base n : Nat} {v x : Value} {xs : List Value} (h : w.ownsRow base 64 1 v (n + 1) (xs ++ [x])) (hn : xs.length = n) :
    ∃ g cap, v = .slice (some ⟨g, 0, none⟩) (n + 1) cap ∧ w.cell? ⟨g, n, none⟩ = some x ∧ n + 1 ≤ cap ∧ cap ≤ 9223372036854775807 ∧ w.ownsRow base 64 1 (.slice (some ⟨g, 0, none⟩) n cap) n xs := by
  rcases h.2 with ⟨_, h0⟩ | ⟨g, cap, cur, hv, hb, hh, h1, h2, h3, h4⟩
  · omega
  · rw [Nat.mul_one] at h4
    refine ⟨g, cap, hv, ?_, h1, by unfold maxLen at h2; omega, by rw [hn, Nat.mul_one], .inr ⟨g, cap, cur, rfl, hb, hh, by omega, h2, h3, ?_⟩⟩
    · rw [Lib.cell_of_heap hh]
      have : (cur.toList.take (n + 1))[n]? = some x := by rw [h4, List.getElem?_append_right (by omega), hn]; simp
      rw [List.getElem?_take_of_lt (by omega)] at this
      simpa using this
    · rw [Nat.mul_one]
      have : (cur.toList.take (n + 1)).take n = xs := by rw [h4, List.take_append_of_le_length (by omega), List.take_of_length_le (by omega)]
      rw [List.take_take, Nat.min_eq_left (by omega)] at this
      exact this

theorem rn_set1 {w : World} {base R τ : Nat} {bv ev sv v' : Value} {Bl El Sl Bl' : List Nat} (hr : RnAt w base R τ bv ev sv Bl El Sl) (ho : w.ownsRow base 64 1 v' Bl'.length (Bl'.map ptr)) (hat : v'.ownBlock = bv.ownBlock) (hbR : base ≤ R) (hbw : base ≤ w.heap.size) :
    RnAt (w.setCell ⟨R, 1, none⟩ v') base R τ v' ev sv Bl' El Sl ∧ KR R w (w.setCell ⟨R, 1, none⟩ v') ∧ Fr base w (w.setCell ⟨R, 1, none⟩ v') := by
  have hset := Kb.setCell w ⟨R, 1, none⟩ v'
  have hblk : (w.setCell ⟨R, 1, none⟩ v').heap[R]? = some (.cells #[.int .i64 τ, v', ev, sv, .map none, .map none] 73 (0, 0)) := by
    rw [set_heap w R 1 _ v' _ _ hr.blk]; rfl
  have hn : ∀ {v : Value} {n : Nat} {xs : List Value}, w.ownsRow base 64 1 v n xs → ∀ q, v.ownBlock = some q → ¬ q = R := fun h q hq he => own_not h hr.blk (by decide) (by rw [hq, he])
  refine ⟨⟨hblk, own_kb ho hset (hn ho), own_kb hr.eo hset (hn hr.eo), own_kb hr.so hset (hn hr.so), fun q h1 => hr.be q (hat ▸ h1), fun q h1 => hr.bs q (hat ▸ h1), hr.es⟩, fun i cs t fz hi hR ht => (hset.block i (lt_of_heap hi) hR).trans hi, Fr.of_kr (hset.below hbw (fun i hi => by rw [hi]; exact hbR)) (fun i cs t fz hi hR ht => (hset.block i (lt_of_heap hi) hR).trans hi) ⟨_, hr.blk⟩⟩
theorem rn_set2 {w : World} {base R τ : Nat} {bv ev sv v' : Value} {Bl El Sl El' : List Nat} (hr : RnAt w base R τ bv ev sv Bl El Sl) (ho : w.ownsRow base 64 1 v' El'.length (El'.map ptr)) (hat : v'.ownBlock = ev.ownBlock) (hbR : base ≤ R) (hbw : base ≤ w.heap.size) :
    RnAt (w.setCell ⟨R, 2, none⟩ v') base R τ bv v' sv Bl El' Sl ∧ KR R w (w.setCell ⟨R, 2, none⟩ v') ∧ Fr base w (w.setCell ⟨R, 2, none⟩ v') := by
  have hset := Kb.setCell w ⟨R, 2, none⟩ v'
  have hblk : (w.setCell ⟨R, 2, none⟩ v').heap[R]? = some (.cells #[.int .i64 τ, bv, v', sv, .map none, .map none] 73 (0, 0)) := by
    rw [set_heap w R 2 _ v' _ _ hr.blk]; rfl
  have hn : ∀ {v : Value} {n : Nat} {xs : List Value}, w.ownsRow base 64 1 v n xs → ∀ q, v.ownBlock = some q → ¬ q = R := fun h q hq he => own_not h hr.blk (by decide) (by rw [hq, he])
  refine ⟨⟨hblk, own_kb hr.bo hset (hn hr.bo), own_kb ho hset (hn ho), own_kb hr.so hset (hn hr.so), fun q h1 h2 => hr.be q h1 (hat ▸ h2), hr.bs, fun q h1 => hr.es q (hat ▸ h1)⟩, fun i cs t fz hi hR ht => (hset.block i (lt_of_heap hi) hR).trans hi, Fr.of_kr (hset.below hbw (fun i hi => by rw [hi]; exact hbR)) (fun i cs t fz hi hR ht => (hset.block i (lt_of_heap hi) hR).trans hi) ⟨_, hr.blk⟩⟩
theorem rn_set3 {w : World} {base R τ : Nat} {bv ev sv v' : Value} {Bl El Sl Sl' : List Nat} (hr : RnAt w base R τ bv ev sv Bl El Sl) (ho : w.ownsRow base 64 1 v' Sl'.length (Sl'.map ptr)) (hat : v'.ownBlock = sv.ownBlock) (hbR : base ≤ R) (hbw : base ≤ w.heap.size) :
    RnAt (w.setCell ⟨R, 3, none⟩ v') base R τ bv ev v' Bl El Sl' ∧ KR R w (w.setCell ⟨R, 3, none⟩ v') ∧ Fr base w (w.setCell ⟨R, 3, none⟩ v') := by
  have hset := Kb.setCell w ⟨R, 3, none⟩ v'
  have hblk : (w.setCell ⟨R, 3, none⟩ v').heap[R]? = some (.cells #[.int .i64 τ, bv, ev, v', .map none, .map none] 73 (0, 0)) := by
    rw [set_heap w R 3 _ v' _ _ hr.blk]; rfl
  have hn : ∀ {v : Value} {n : Nat} {xs : List Value}, w.ownsRow base 64 1 v n xs → ∀ q, v.ownBlock = some q → ¬ q = R := fun h q hq he => own_not h hr.blk (by decide) (by rw [hq, he])
  refine ⟨⟨hblk, own_kb hr.bo hset (hn hr.bo), own_kb hr.eo hset (hn hr.eo), own_kb ho hset (hn ho), hr.be, fun q h1 h2 => hr.bs q h1 (hat ▸ h2), fun q h1 h2 => hr.es q h1 (hat ▸ h2)⟩, fun i cs t fz hi hR ht => (hset.block i (lt_of_heap hi) hR).trans hi, Fr.of_kr (hset.below hbw (fun i hi => by rw [hi]; exact hbR)) (fun i cs t fz hi hR ht => (hset.block i (lt_of_heap hi) hR).trans hi) ⟨_, hr.blk⟩⟩
/-- The run's time is set. -/
theorem rn_set0 {w : World} {base R τ τ' : Nat} {bv ev sv : Value} {Bl El Sl : List Nat} (hr : RnAt w base R τ bv ev sv Bl El Sl) (hbR : base ≤ R) (hbw : base ≤ w.heap.size) :
    RnAt (w.setCell ⟨R, 0, none⟩ (.int .i64 τ')) base R τ' bv ev sv Bl El Sl ∧ KR R w (w.setCell ⟨R, 0, none⟩ (.int .i64 τ')) ∧ Fr base w (w.setCell ⟨R, 0, none⟩ (.int .i64 τ')) := by
  have hset := Kb.setCell w ⟨R, 0, none⟩ (.int .i64 τ')
  have hblk : (w.setCell ⟨R, 0, none⟩ (.int .i64 τ')).heap[R]? = some (.cells #[.int .i64 τ', bv, ev, sv, .map none, .map none] 73 (0, 0)) := by
    rw [set_heap w R 0 _ _ _ _ hr.blk]; rfl
  have hn : ∀ {v : Value} {n : Nat} {xs : List Value}, w.ownsRow base 64 1 v n xs → ∀ q, v.ownBlock = some q → ¬ q = R := fun h q hq he => own_not h hr.blk (by decide) (by rw [hq, he])
  refine ⟨⟨hblk, own_kb hr.bo hset (hn hr.bo), own_kb hr.eo hset (hn hr.eo), own_kb hr.so hset (hn hr.so), hr.be, hr.bs, hr.es⟩, fun i cs t fz hi hR ht => (hset.block i (lt_of_heap hi) hR).trans hi, Fr.of_kr (hset.below hbw (fun i hi => by rw [hi]; exact hbR)) (fun i cs t fz hi hR ht => (hset.block i (lt_of_heap hi) hR).trans hi) ⟨_, hr.blk⟩⟩

/-- pop on the ends. -/
theorem pop_el (w : World) (r : Rx) (g : Gh) (root base R τ x : Nat) (bv ev sv : Value) (Bl El Sl : List Nat) (hs : SpAt w r g root) (hr : RnAt w base R τ bv ev sv Bl (El ++ [x]) Sl) (hbase : base ≤ w.heap.size) (hbR : base ≤ R) :
    Calls Try.prog 50 #[.pointer (some ⟨R, 2, none⟩)] w fun e w' => e = .returned (ptr x) ∧ ∃ v', RnAt w' base R τ bv v' sv Bl El Sl ∧ SpAt w' r g root ∧ Fr base w w' := by
  have ho := hr.eo
  rw [List.length_append, List.map_append] at ho
  obtain ⟨gE, cap, hv, hc, h1, h2, h3⟩ := own_snoc (n := El.length) ho (by simp)
  have hc2 : w.cell? ⟨R, 2, none⟩ = some ev := rn_c2 hr
  rw [hv] at hc2
  refine (pop_some R 2 gE El.length (El.length + 1) cap x w rfl hc2 (Lib.frozen_of_heap hr.blk 2) h1 h2 hc).mono ?_
  rintro e w' ⟨rfl, rfl⟩
  obtain ⟨a1, a2, a3⟩ := rn_set2 hr h3 (by rw [hv]; rfl) hbR hbase
  exact ⟨rfl, _, a1, hs.kr a2 ⟨_, hr.blk⟩, a3⟩
theorem pop_bl (w : World) (r : Rx) (g : Gh) (root base R τ x : Nat) (bv ev sv : Value) (Bl El Sl : List Nat) (hs : SpAt w r g root) (hr : RnAt w base R τ bv ev sv (Bl ++ [x]) El Sl) (hbase : base ≤ w.heap.size) (hbR : base ≤ R) :
    Calls Try.prog 50 #[.pointer (some ⟨R, 1, none⟩)] w fun e w' => e = .returned (ptr x) ∧ ∃ v', RnAt w' base R τ v' ev sv Bl El Sl ∧ SpAt w' r g root ∧ Fr base w w' := by
  have ho := hr.bo
  rw [List.length_append, List.map_append] at ho
  obtain ⟨gE, cap, hv, hc, h1, h2, h3⟩ := own_snoc (n := Bl.length) ho (by simp)
  have hc2 : w.cell? ⟨R, 1, none⟩ = some bv := rn_c1 hr
  rw [hv] at hc2
  refine (pop_some R 1 gE Bl.length (Bl.length + 1) cap x w rfl hc2 (Lib.frozen_of_heap hr.blk 1) h1 h2 hc).mono ?_
  rintro e w' ⟨rfl, rfl⟩
  obtain ⟨a1, a2, a3⟩ := rn_set1 hr h3 (by rw [hv]; rfl) hbR hbase
  exact ⟨rfl, _, a1, hs.kr a2 ⟨_, hr.blk⟩, a3⟩
theorem pop_el0 (w : World) (base R τ : Nat) (bv ev sv : Value) (Bl Sl : List Nat) (hr : RnAt w base R τ bv ev sv Bl [] Sl) :
    Calls Try.prog 50 #[.pointer (some ⟨R, 2, none⟩)] w fun e w' => e = .returned (.pointer none) ∧ w' = w := by
  obtain ⟨A, c, hv, _, _⟩ := own_form hr.eo
  have hc2 : w.cell? ⟨R, 2, none⟩ = some ev := rn_c2 hr
  rw [hv] at hc2
  exact pop_none R 2 A c w hc2

/-- A spot's times are set. -/
theorem sp_set {w : World} {r : Rx} {g : Gh} {root b : Nat} {p : Path} (h : SpAt w r g root) (hb : g.σ p = some b) (τ : Nat) :
    (SpAt (w.setCell ⟨b, 4, none⟩ (.int .i64 τ)) r ⟨g.σ, upd g.bg p τ, g.en⟩ root ∧ SpAt (w.setCell ⟨b, 5, none⟩ (.int .i64 τ)) r ⟨g.σ, g.bg, upd g.en p τ⟩ root) := by
  obtain ⟨eb, nb, hb1, hb2, hb3⟩ := h.at' p b hb
  have hkn : ∀ j v, KN w (w.setCell ⟨b, j, none⟩ v) := fun j v => (Kb.setCell w ⟨b, j, none⟩ v).kn (fun i hi cs t fz hh => by
    have hi' : i = b := hi
    rw [hi'] at hh
    unfold SpB at hb3
    have hh' : w.heap[b]? = some (Obj.cells cs t fz) := hh
    rw [hb3] at hh'
    injection hh' with hh'
    injection hh' with _ h2
    rw [← h2]; decide)
  have hne : ∀ q c, g.σ q = some c → q ≠ p → c ≠ b := fun q c hc hq e => hq (h.inj _ _ _ (e ▸ hc) hb)
  constructor
  · refine ⟨h.root, fun q c hc => ?_, h.par, h.inj, fun q hq => ?_, h.low⟩
    · obtain ⟨e, nc, h1, h2, h3⟩ := h.at' q c hc
      refine ⟨e, nc, h1, h2.keep (hkn _ _), ?_⟩
      by_cases hqp : q = p
      · subst hqp
        have hc' : g.σ q = some c := hc
        rw [hb] at hc'
        injection hc' with hc'
        subst hc'
        unfold SpB at h3 ⊢
        rw [set_heap w b 4 _ _ _ _ h3]
        simp [upd_same]
        rfl
      · unfold SpB at h3 ⊢
        have : (upd g.bg p τ) q = g.bg q := if_neg hqp
        rw [(Kb.setCell w ⟨b, 4, none⟩ (.int .i64 τ)).block c (lt_of_heap h3) (hne q c hc hqp), h3]
        simp only [this]
        rfl
    · have : q ≠ p := by rintro rfl; have hq' : g.σ q = none := hq; rw [hb] at hq'; cases hq'
      show upd g.bg p τ q = 0 ∧ g.en q = 0
      unfold upd; rw [if_neg this]; exact h.new q hq
  · refine ⟨h.root, fun q c hc => ?_, h.par, h.inj, fun q hq => ?_, h.low⟩
    · obtain ⟨e, nc, h1, h2, h3⟩ := h.at' q c hc
      refine ⟨e, nc, h1, h2.keep (hkn _ _), ?_⟩
      by_cases hqp : q = p
      · subst hqp
        have hc' : g.σ q = some c := hc
        rw [hb] at hc'
        injection hc' with hc'
        subst hc'
        unfold SpB at h3 ⊢
        rw [set_heap w b 5 _ _ _ _ h3]
        simp [upd_same]
        rfl
      · unfold SpB at h3 ⊢
        have : (upd g.en p τ) q = g.en q := if_neg hqp
        rw [(Kb.setCell w ⟨b, 5, none⟩ (.int .i64 τ)).block c (lt_of_heap h3) (hne q c hc hqp), h3]
        simp only [this]
        rfl
    · have : q ≠ p := by rintro rfl; have hq' : g.σ q = none := hq; rw [hb] at hq'; cases hq'
      show g.bg q = 0 ∧ upd g.en p τ q = 0
      unfold upd; rw [if_neg this]; exact h.new q hq

theorem on_snoc {g : Gh} {l : List Nat} {x : Nat} {ps : List Path} (h : On g (l ++ [x]) ps) : ∃ qs p, ps = qs ++ [p] ∧ On g l qs ∧ g.σ p = some x := by
  unfold On at h
  rcases List.eq_nil_or_concat ps with rfl | ⟨qs, p, rfl⟩
  · simp at h
  · rw [List.concat_eq_append] at *
    rw [List.map_append, List.map_append] at h
    have := List.append_inj' h rfl
    exact ⟨qs, p, rfl, this.1, by simpa using this.2.symm⟩
theorem on_nil {g : Gh} {ps : List Path} (h : On g [] ps) : ps = [] := by
  unfold On at h; simpa using h.symm
theorem on_len {g : Gh} {l : List Nat} {ps : List Path} (h : On g l ps) : l.length = ps.length := by
  have := congrArg List.length h; simpa using this
theorem on_append {g : Gh} {l l' : List Nat} {ps ps' : List Path} (h : On g l ps) (h' : On g l' ps') : On g (l ++ l') (ps ++ ps') := by
  unfold On at *; rw [List.map_append, List.map_append, h, h']
theorem on_grow {g g' : Gh} {l : List Nat} {ps : List Path} (h : On g l ps) (hg : ∀ p c, g.σ p = some c → g'.σ p = some c) : On g' l ps := by
  induction l generalizing ps with
  | nil => rw [on_nil h]; rfl
  | cons a l ih =>
    cases ps with
    | nil => simp [On] at h
    | cons p ps =>
      unfold On at h
      simp only [List.map_cons, List.cons.injEq] at h
      have := ih h.2
      unfold On at *
      simp only [List.map_cons, List.cons.injEq]
      exact ⟨(hg p a h.1.symm).symm, this⟩
end Go.Proofs.Ytejdfpieblkapaa
