/- The run's lists in memory; what begin does. -/
import Derived.Test.YtejdfpieblkapaaM2
import Derived.Deep.RegionLaw
namespace Go.Proofs.Ytejdfpieblkapaa
open Go.RowKit

theorem Try.info64 : (Try.prog.info? 64).map (fun i => (i.zero, i.size, i.bytes)) = some (some (.pointer none), 1, 8) := by kernel_rfl
theorem info_parts {P : Program} {t : TypeId} {z : Value} {s b : Nat} (h : (P.info? t).map (fun i => (i.zero, i.size, i.bytes)) = some (some z, s, b)) : ∃ i, P.info? t = some i ∧ i.zero = some z ∧ i.size = s ∧ i.bytes = b := by
  obtain ⟨i, hi, hh⟩ := Option.map_eq_some_iff.1 h
  simp only [Prod.mk.injEq] at hh
  exact ⟨i, hi, hh.1, hh.2.1, hh.2.2⟩

/-- A run and its lists. -/
structure RnAt (w : World) (base R : Nat) (τ : Nat) (bv ev sv : Value) (Bl El Sl : List Nat) : Prop where
  blk : w.heap[R]? = some (.cells #[.int .i64 τ, bv, ev, sv, .map none, .map none] 73 (0, 0))
  bo : w.ownsRow base 64 1 bv Bl.length (Bl.map ptr)
  eo : w.ownsRow base 64 1 ev El.length (El.map ptr)
  so : w.ownsRow base 64 1 sv Sl.length (Sl.map ptr)
  be : ∀ g, bv.ownBlock = some g → ev.ownBlock ≠ some g
  bs : ∀ g, bv.ownBlock = some g → sv.ownBlock ≠ some g
  es : ∀ g, ev.ownBlock = some g → sv.ownBlock ≠ some g

theorem own_form {w : World} {base e size n : Nat} {v : Value} {xs : List Value} (h : w.ownsRow base e size v n xs) : ∃ A c, v = .slice A n c ∧ n ≤ c ∧ c ≤ 9223372036854775807 := by
  rcases h.2 with ⟨hv, hn⟩ | ⟨g, cap, cur, hv, _, _, h1, h2, _⟩
  · exact ⟨none, 0, by rw [hv, hn], by omega, by omega⟩
  · exact ⟨_, _, hv, h1, by unfold maxLen at h2; omega⟩
theorem own_kb {ex : Nat → Prop} {w w' : World} {base e size n : Nat} {v : Value} {xs : List Value} (h : w.ownsRow base e size v n xs) (hk : Kb ex w w') (hx : ∀ g, v.ownBlock = some g → ¬ ex g) : w'.ownsRow base e size v n xs := by
  refine ⟨h.1, ?_⟩
  rcases h.2 with hn | ⟨g, cap, cur, rfl, hb, hgg, rest⟩
  · exact .inl hn
  · exact .inr ⟨g, cap, cur, rfl, hb, (hk.block g (lt_of_heap hgg) (hx g rfl)).trans hgg, rest⟩
theorem own_ty {w : World} {base e size n : Nat} {v : Value} {xs : List Value} (h : w.ownsRow base e size v n xs) {g : Nat} (hg : v.ownBlock = some g) : base ≤ g ∧ ∃ cs, w.heap[g]? = some (.cells cs e (0, 0)) := by
  rcases h.2 with ⟨hv, _⟩ | ⟨g', cap, cur, hv, hbb, hgg, _⟩
  · rw [hv] at hg; simp [Value.ownBlock] at hg
  · rw [hv] at hg
    have : g' = g := by simpa [Value.ownBlock] using hg
    subst this
    exact ⟨hbb, cur, hgg⟩
theorem own_not {w : World} {base e size n b t : Nat} {v : Value} {xs : List Value} {cs : Array Value} {fz : Nat × Nat} (h : w.ownsRow base e size v n xs) (hb : w.heap[b]? = some (.cells cs t fz)) (ht : t ≠ e) : some b ≠ v.ownBlock := by
  intro hg
  obtain ⟨_, cs', hc⟩ := own_ty h hg.symm
  rw [hb] at hc
  injection hc with hc
  injection hc with _ h2
  exact ht h2

/-- Rows of spots, and the run's block, alone may change. -/
def KR (R : Nat) (w w' : World) : Prop := ∀ (i : Nat) (cs : Array Value) (t : TypeId) (fz : Nat × Nat), w.heap[i]? = some (Obj.cells cs t fz) → i ≠ R → t ≠ 64 → w'.heap[i]? = some (Obj.cells cs t fz)

theorem SpAt.kr {w w' : World} {r : Rx} {g : Gh} {root R : Nat} (h : SpAt w r g root) (hk : KR R w w') (hR : ∃ cs, w.heap[R]? = some (.cells cs 73 (0, 0))) : SpAt w' r g root := by
  have hne : ∀ (i : Nat) (cs : Array Value) (t : TypeId) (fz : Nat × Nat), w.heap[i]? = some (Obj.cells cs t fz) → t ≠ 73 → i ≠ R := by
    rintro i cs t fz hi ht rfl
    obtain ⟨cs', hc⟩ := hR
    rw [hc] at hi
    injection hi with hi
    injection hi with _ h2
    exact ht h2.symm
  refine h.keep (fun i cs t fz hi ht => hk i cs t fz hi (hne i cs t fz hi (by rcases ht with rfl | rfl <;> decide)) (by rcases ht with rfl | rfl <;> decide)) (fun i cs hi => hk i cs _ _ hi (hne i cs _ _ hi (by decide)) (by decide))

theorem below_drewN (B : Nat) (w : World) (n : Nat) : Below B w (w.drewN n) := ⟨rfl, rfl, rfl, Nat.le_refl _, fun _ _ => rfl⟩
theorem own_low {w : World} {base n : Nat} {v : Value} {xs : List Value} (h : w.ownsRow base 64 1 v n xs) : ∀ g, v.ownBlock = some g → base ≤ g ∧ g < w.heap.size := fun g hg => by
  obtain ⟨h1, cs, hc⟩ := own_ty h hg
  exact ⟨h1, lt_of_heap hc⟩

/-- Below base nothing changes; elsewhere rows of spots, spots, and runs alone. -/
structure Fr (base : Nat) (w w' : World) : Prop where
  below : Below base w w'
  kx : ∀ (i : Nat) (cs : Array Value) (t : TypeId) (fz : Nat × Nat), w.heap[i]? = some (Obj.cells cs t fz) → t ≠ 64 → t ≠ 68 → t ≠ 73 → w'.heap[i]? = some (Obj.cells cs t fz)
theorem Fr.size {base : Nat} {w w' : World} (h : Fr base w w') : w.heap.size ≤ w'.heap.size := h.below.size
theorem Fr.refl (base : Nat) (w : World) : Fr base w w := ⟨Below.refl _ _, fun _ _ _ _ h _ _ _ => h⟩
theorem Fr.trans {base : Nat} {a b c : World} (h : Fr base a b) (k : Fr base b c) : Fr base a c := ⟨h.below.trans k.below, fun i cs t fz hi h1 h2 h3 => k.kx i cs t fz (h.kx i cs t fz hi h1 h2 h3) h1 h2 h3⟩
theorem Fr.of_below {base : Nat} {w w' : World} (hB : base ≤ w.heap.size) (h : Below w.heap.size w w') : Fr base w w' := ⟨h.mono hB, fun i _ _ _ hi _ _ _ => (h.block i (lt_of_heap hi)).trans hi⟩
theorem Fr.drewN {base : Nat} {w w' : World} (h : Fr base w w') (n : Nat) : Fr base w (w'.drewN n) := ⟨⟨h.below.os, h.below.tape, h.below.output, h.below.size, h.below.block⟩, h.kx⟩
theorem Fr.of_kr {base R : Nat} {w w' : World} (h : Below base w w') (hk : KR R w w') (hR : ∃ cs, w.heap[R]? = some (.cells cs 73 (0, 0))) : Fr base w w' := ⟨h, fun i cs t fz hi h1 _ h3 => hk i cs t fz hi (by
  rintro rfl
  obtain ⟨cs', hc⟩ := hR
  rw [hc] at hi
  injection hi with hi
  injection hi with _ h2
  exact h3 h2.symm) h1⟩
theorem Fr.of_part {base b : Nat} {w w' : World} (h : Kb (fun i => i = b) w w') (hB : base ≤ w.heap.size) (hbb : base ≤ b) (hty : ∃ cs, w.heap[b]? = some (.cells cs 68 (0, 0))) : Fr base w w' := ⟨h.below hB (fun i hi => by rw [hi]; exact hbb), fun i cs t fz hi _ h2 _ => (h.block i (lt_of_heap hi) (by
  rintro rfl
  obtain ⟨cs', hc⟩ := hty
  rw [hc] at hi
  injection hi with hi
  injection hi with _ h3
  exact h2 h3.symm)).trans hi⟩

theorem rn_push1o {w w6 : World} {base R τ : Nat} {bv ev sv v' : Value} {Bl El Sl new : List Nat} (hr : RnAt w base R τ bv ev sv Bl El Sl) (hg : Kb (fun i => some i = bv.ownBlock) w w6) (ho : w6.ownsRow base 64 1 v' (Bl ++ new).length ((Bl ++ new).map ptr)) (hat : v'.ownBlock = bv.ownBlock ∨ ∃ g, v'.ownBlock = some g ∧ w.heap.size ≤ g) (hbR : base ≤ R) (hbw : base ≤ w.heap.size) :
    RnAt (w6.setCell ⟨R, 1, none⟩ v') base R τ v' ev sv (Bl ++ new) El Sl ∧ KR R w (w6.setCell ⟨R, 1, none⟩ v') ∧ Below base w (w6.setCell ⟨R, 1, none⟩ v') := by
  have hRn : some R ≠ bv.ownBlock := own_not hr.bo hr.blk (by decide)
  have hR6 : w6.heap[R]? = some (.cells #[.int .i64 τ, bv, ev, sv, .map none, .map none] 73 (0, 0)) := (hg.block R (lt_of_heap hr.blk) hRn).trans hr.blk
  have hR6n : some R ≠ v'.ownBlock := own_not ho hR6 (by decide)
  have hset := Kb.setCell w6 ⟨R, 1, none⟩ v'
  have hall : Kb (fun i => some i = bv.ownBlock ∨ i = R) w (w6.setCell ⟨R, 1, none⟩ v') := (hg.wider (fun i h => .inl h)).trans hset (fun i _ h => .inr h)
  have hblk : (w6.setCell ⟨R, 1, none⟩ v').heap[R]? = some (.cells #[.int .i64 τ, v', ev, sv, .map none, .map none] 73 (0, 0)) := by
    rw [set_heap w6 R 1 _ v' _ _ hR6]; rfl
  have hnew : ∀ g, g < w.heap.size → v'.ownBlock = some g → bv.ownBlock = some g := fun g hgl hgv => by
    rcases hat with h | ⟨g', h, h'⟩
    · rw [← h]; exact hgv
    · rw [h] at hgv; injection hgv with hgv; omega
  refine ⟨⟨hblk, own_kb ho hset (fun q hq he => hR6n (by rw [hq]; exact congrArg some he.symm)), own_kb hr.eo hall (fun q hq he => he.elim (fun h => hr.be q h.symm hq) (fun h => own_not hr.eo hr.blk (by decide) (by rw [hq, h]))), own_kb hr.so hall (fun q hq he => he.elim (fun h => hr.bs q h.symm hq) (fun h => own_not hr.so hr.blk (by decide) (by rw [hq, h]))), fun q h1 h2 => hr.be q (hnew q (own_low hr.eo q h2).2 h1) h2, fun q h1 h2 => hr.bs q (hnew q (own_low hr.so q h2).2 h1) h2, hr.es⟩, fun i cs t fz hi hR ht => ?_, hall.below hbw (fun i hi => hi.elim (fun h => (own_low hr.bo i h.symm).1) (fun h => by rw [h]; exact hbR))⟩
  refine (hall.block i (lt_of_heap hi) ?_).trans hi
  rintro (h | h)
  · exact own_not hr.bo hi ht h
  · exact hR h

theorem rn_push1 {w w6 : World} {base R τ : Nat} {bv ev sv v' : Value} {Bl El Sl new : List Nat} (hr : RnAt w base R τ bv ev sv Bl El Sl) (hg : Kb (fun i => some i = bv.ownBlock) w w6) (ho : w6.ownsRow base 64 1 v' (Bl ++ new).length ((Bl ++ new).map ptr)) (hat : v'.ownBlock = bv.ownBlock ∨ ∃ g, v'.ownBlock = some g ∧ w.heap.size ≤ g) (hbR : base ≤ R) (hbw : base ≤ w.heap.size) :
    RnAt (w6.setCell ⟨R, 1, none⟩ v') base R τ v' ev sv (Bl ++ new) El Sl ∧ KR R w (w6.setCell ⟨R, 1, none⟩ v') ∧ Fr base w (w6.setCell ⟨R, 1, none⟩ v') := by
  obtain ⟨a1, a2, a3⟩ := rn_push1o hr hg ho hat hbR hbw
  exact ⟨a1, a2, Fr.of_kr a3 a2 ⟨_, hr.blk⟩⟩

theorem rn_push2o {w w6 : World} {base R τ : Nat} {bv ev sv v' : Value} {Bl El Sl new : List Nat} (hr : RnAt w base R τ bv ev sv Bl El Sl) (hg : Kb (fun i => some i = ev.ownBlock) w w6) (ho : w6.ownsRow base 64 1 v' (El ++ new).length ((El ++ new).map ptr)) (hat : v'.ownBlock = ev.ownBlock ∨ ∃ g, v'.ownBlock = some g ∧ w.heap.size ≤ g) (hbR : base ≤ R) (hbw : base ≤ w.heap.size) :
    RnAt (w6.setCell ⟨R, 2, none⟩ v') base R τ bv v' sv Bl (El ++ new) Sl ∧ KR R w (w6.setCell ⟨R, 2, none⟩ v') ∧ Below base w (w6.setCell ⟨R, 2, none⟩ v') := by
  have hRn : some R ≠ ev.ownBlock := own_not hr.eo hr.blk (by decide)
  have hR6 : w6.heap[R]? = some (.cells #[.int .i64 τ, bv, ev, sv, .map none, .map none] 73 (0, 0)) := (hg.block R (lt_of_heap hr.blk) hRn).trans hr.blk
  have hR6n : some R ≠ v'.ownBlock := own_not ho hR6 (by decide)
  have hset := Kb.setCell w6 ⟨R, 2, none⟩ v'
  have hall : Kb (fun i => some i = ev.ownBlock ∨ i = R) w (w6.setCell ⟨R, 2, none⟩ v') := (hg.wider (fun i h => .inl h)).trans hset (fun i _ h => .inr h)
  have hblk : (w6.setCell ⟨R, 2, none⟩ v').heap[R]? = some (.cells #[.int .i64 τ, bv, v', sv, .map none, .map none] 73 (0, 0)) := by
    rw [set_heap w6 R 2 _ v' _ _ hR6]; rfl
  have hnew : ∀ g, g < w.heap.size → v'.ownBlock = some g → ev.ownBlock = some g := fun g hgl hgv => by
    rcases hat with h | ⟨g', h, h'⟩
    · rw [← h]; exact hgv
    · rw [h] at hgv; injection hgv with hgv; omega
  refine ⟨⟨hblk, own_kb hr.bo hall (fun q hq he => he.elim (fun h => hr.be q hq h.symm) (fun h => own_not hr.bo hr.blk (by decide) (by rw [hq, h]))), own_kb ho hset (fun q hq he => hR6n (by rw [hq]; exact congrArg some he.symm)), own_kb hr.so hall (fun q hq he => he.elim (fun h => hr.es q h.symm hq) (fun h => own_not hr.so hr.blk (by decide) (by rw [hq, h]))), fun q h1 h2 => hr.be q h1 (hnew q (own_low hr.bo q h1).2 h2), hr.bs, fun q h1 h2 => hr.es q (hnew q (own_low hr.so q h2).2 h1) h2⟩, fun i cs t fz hi hR ht => ?_, hall.below hbw (fun i hi => hi.elim (fun h => (own_low hr.eo i h.symm).1) (fun h => by rw [h]; exact hbR))⟩
  refine (hall.block i (lt_of_heap hi) ?_).trans hi
  rintro (h | h)
  · exact own_not hr.eo hi ht h
  · exact hR h

theorem rn_push2 {w w6 : World} {base R τ : Nat} {bv ev sv v' : Value} {Bl El Sl new : List Nat} (hr : RnAt w base R τ bv ev sv Bl El Sl) (hg : Kb (fun i => some i = ev.ownBlock) w w6) (ho : w6.ownsRow base 64 1 v' (El ++ new).length ((El ++ new).map ptr)) (hat : v'.ownBlock = ev.ownBlock ∨ ∃ g, v'.ownBlock = some g ∧ w.heap.size ≤ g) (hbR : base ≤ R) (hbw : base ≤ w.heap.size) :
    RnAt (w6.setCell ⟨R, 2, none⟩ v') base R τ bv v' sv Bl (El ++ new) Sl ∧ KR R w (w6.setCell ⟨R, 2, none⟩ v') ∧ Fr base w (w6.setCell ⟨R, 2, none⟩ v') := by
  obtain ⟨a1, a2, a3⟩ := rn_push2o hr hg ho hat hbR hbw
  exact ⟨a1, a2, Fr.of_kr a3 a2 ⟨_, hr.blk⟩⟩

theorem rn_push3o {w w6 : World} {base R τ : Nat} {bv ev sv v' : Value} {Bl El Sl new : List Nat} (hr : RnAt w base R τ bv ev sv Bl El Sl) (hg : Kb (fun i => some i = sv.ownBlock) w w6) (ho : w6.ownsRow base 64 1 v' (Sl ++ new).length ((Sl ++ new).map ptr)) (hat : v'.ownBlock = sv.ownBlock ∨ ∃ g, v'.ownBlock = some g ∧ w.heap.size ≤ g) (hbR : base ≤ R) (hbw : base ≤ w.heap.size) :
    RnAt (w6.setCell ⟨R, 3, none⟩ v') base R τ bv ev v' Bl El (Sl ++ new) ∧ KR R w (w6.setCell ⟨R, 3, none⟩ v') ∧ Below base w (w6.setCell ⟨R, 3, none⟩ v') := by
  have hRn : some R ≠ sv.ownBlock := own_not hr.so hr.blk (by decide)
  have hR6 : w6.heap[R]? = some (.cells #[.int .i64 τ, bv, ev, sv, .map none, .map none] 73 (0, 0)) := (hg.block R (lt_of_heap hr.blk) hRn).trans hr.blk
  have hR6n : some R ≠ v'.ownBlock := own_not ho hR6 (by decide)
  have hset := Kb.setCell w6 ⟨R, 3, none⟩ v'
  have hall : Kb (fun i => some i = sv.ownBlock ∨ i = R) w (w6.setCell ⟨R, 3, none⟩ v') := (hg.wider (fun i h => .inl h)).trans hset (fun i _ h => .inr h)
  have hblk : (w6.setCell ⟨R, 3, none⟩ v').heap[R]? = some (.cells #[.int .i64 τ, bv, ev, v', .map none, .map none] 73 (0, 0)) := by
    rw [set_heap w6 R 3 _ v' _ _ hR6]; rfl
  have hnew : ∀ g, g < w.heap.size → v'.ownBlock = some g → sv.ownBlock = some g := fun g hgl hgv => by
    rcases hat with h | ⟨g', h, h'⟩
    · rw [← h]; exact hgv
    · rw [h] at hgv; injection hgv with hgv; omega
  refine ⟨⟨hblk, own_kb hr.bo hall (fun q hq he => he.elim (fun h => hr.bs q hq h.symm) (fun h => own_not hr.bo hr.blk (by decide) (by rw [hq, h]))), own_kb hr.eo hall (fun q hq he => he.elim (fun h => hr.es q hq h.symm) (fun h => own_not hr.eo hr.blk (by decide) (by rw [hq, h]))), own_kb ho hset (fun q hq he => hR6n (by rw [hq]; exact congrArg some he.symm)), hr.be, fun q h1 h2 => hr.bs q h1 (hnew q (own_low hr.bo q h1).2 h2), fun q h1 h2 => hr.es q h1 (hnew q (own_low hr.eo q h1).2 h2)⟩, fun i cs t fz hi hR ht => ?_, hall.below hbw (fun i hi => hi.elim (fun h => (own_low hr.so i h.symm).1) (fun h => by rw [h]; exact hbR))⟩
  refine (hall.block i (lt_of_heap hi) ?_).trans hi
  rintro (h | h)
  · exact own_not hr.so hi ht h
  · exact hR h

theorem rn_push3 {w w6 : World} {base R τ : Nat} {bv ev sv v' : Value} {Bl El Sl new : List Nat} (hr : RnAt w base R τ bv ev sv Bl El Sl) (hg : Kb (fun i => some i = sv.ownBlock) w w6) (ho : w6.ownsRow base 64 1 v' (Sl ++ new).length ((Sl ++ new).map ptr)) (hat : v'.ownBlock = sv.ownBlock ∨ ∃ g, v'.ownBlock = some g ∧ w.heap.size ≤ g) (hbR : base ≤ R) (hbw : base ≤ w.heap.size) :
    RnAt (w6.setCell ⟨R, 3, none⟩ v') base R τ bv ev v' Bl El (Sl ++ new) ∧ KR R w (w6.setCell ⟨R, 3, none⟩ v') ∧ Fr base w (w6.setCell ⟨R, 3, none⟩ v') := by
  obtain ⟨a1, a2, a3⟩ := rn_push3o hr hg ho hat hbR hbw
  exact ⟨a1, a2, Fr.of_kr a3 a2 ⟨_, hr.blk⟩⟩

set_option maxRecDepth 100000 in
set_option maxHeartbeats 2000000 in
theorem begin_set (w : World) (r : Rx) (g : Gh) (root base R τ b : Nat) (p : Path) (s : Ws) (bv ev sv : Value) (Bl El Sl : List Nat) (hs : SpAt w r g root) (hr : RnAt w base R τ bv ev sv Bl El Sl) (hb : g.σ p = some b) (he : r.at p = some (.set s)) (hbase : base ≤ w.heap.size) (hbR : base ≤ R) (hl : Sl.length ≤ 1048576) :
    Calls Try.prog 52 #[ptr R, ptr b] w fun e w' => e = .returned (.tuple #[]) ∧ ∃ v', RnAt w' base R τ bv ev v' Bl El (Sl ++ [b]) ∧ SpAt w' r g root ∧ Fr base w w' := by
  obtain ⟨e, nb, h1, h2, h3⟩ := hs.at' p b hb
  rw [he] at h1
  injection h1 with h1
  subst h1
  obtain ⟨A, n, hnb, hn⟩ := h2.blk
  obtain ⟨sA, sc, rfl, hs1, hs2⟩ := own_form hr.so
  obtain ⟨ns, hns⟩ : ∃ ns, ns = Sl.length := ⟨_, rfl⟩
  have hr' : RnAt w base R τ bv ev (.slice sA ns sc) Bl El Sl := by rw [hns]; exact hr
  have hrb := hr'.blk
  have c0 : w.cell? ⟨b, 0, none⟩ = some (.pointer (some ⟨nb, 0, none⟩)) := by unfold SpB at h3; rw [Lib.cell_of_heap h3]; rfl
  have c1 : w.cell? ⟨b, 1, none⟩ = some (g.up p) := by unfold SpB at h3; rw [Lib.cell_of_heap h3]; rfl
  have d0 : w.cell? ⟨nb, 0, none⟩ = some (.int .i64 0) := by unfold NdB at hnb; rw [Lib.cell_of_heap hnb]; rfl
  have d5 : w.cell? ⟨nb, 5, none⟩ = some (.slice A 0 0) := by unfold NdB at hnb; rw [Lib.cell_of_heap hnb, hn]; rfl
  have r3 : w.cell? ⟨R, 3, none⟩ = some (.slice sA ns sc) := by rw [Lib.cell_of_heap hrb]; rfl
  have fr3 : w.frozen? ⟨R, 3, none⟩ = false := Lib.frozen_of_heap hrb 3
  obtain ⟨i0, hi0, hz0, hz1, hz2⟩ := info_parts Try.info64
  have HI := Lib.hid hi0; have HZ0 := Lib.hid hz0; have HZ1 := Lib.hid hz1; have HZ2 := Lib.hid hz2
  clear hi0 hz0 hz1 hz2
  rw [← hns] at hl hs1
  have HS := Lib.hid hs; have HR := Lib.hid hr'
  have HO := Lib.hid (show w.ownsRow base 64 1 (.slice sA ns sc) ns (Sl.map ptr) by rw [hns]; exact hr.so)
  have HNS := Lib.hid hns
  have hRl := lt_of_heap hrb
  have HPAR := Lib.hid hs.par
  have HB := Lib.hid hb
  clear hs hr hr' h2 h3 hnb hn hrb hns hb he
  rcases p with _ | ⟨k, p⟩
  · have c1' : w.cell? ⟨b, 1, none⟩ = some (.pointer none) := c1
    clear c1
    go_enter Try.func52, Try.ntmps52
    go_wp2_with fail
    go_quiet (fail)
    go_wp2_with (at_builtin; refine wpList_append_lies _ rfl _ _ 66 rfl base 64 i0 _ 1 8 Try.underlying66 HI.out HZ0.out HZ1.out HZ2.out rfl (by omega) (.slice sA ns sc) ns _ rfl ((show (w.drewN nq).ownsRow base 64 1 (.slice sA ns sc) ns _ from HO.out).alloc _) ⟨w.heap.size, 0, none⟩ 1 1 [ptr b] rfl rfl (World.news_of_block (cs := #[ptr b]) (t := 64) (fr := (0, 0)) (heap_alloc_new (w.drewN nq) _)) (by simp [Value.oneCell']) (by omega) (by unfold maxLen; omega) (by omega) (by simp; omega) (w.heap.size + 1) (by simp) ?_)
    intro gg cap6 w6 hown6 hgrow6 hat6 hlt6
    have hg6 : Kb (fun i => some i = (Value.slice sA ns sc).ownBlock) w w6 := (Kb.of_below _ ((below_drewN _ w nq).alloc (Nat.le_refl _) _)).trans (Kb.of_grown hgrow6) (fun i _ h => h)
    have hR6 := (hg6.block R hRl (own_not HR.out.so HR.out.blk (by decide))).trans HR.out.blk
    have e3 : w6.cell? ⟨R, 3, none⟩ = some (.slice sA ns sc) := by rw [Lib.cell_of_heap hR6]; rfl
    have ef3 : w6.frozen? ⟨R, 3, none⟩ = false := Lib.frozen_of_heap hR6 3
    have HO6 := Lib.hid hown6; have HG6 := Lib.hid hg6; have HA6 := Lib.hid hat6
    clear hown6 hg6 hgrow6 hat6 hlt6 hR6
    go_wp2
    go_end0
    have hll : (Sl ++ [b]).length = ns + 1 := by rw [List.length_append, HNS.out]; rfl
    obtain ⟨a1, a2, a3⟩ := rn_push3 (new := [b]) HR.out HG6.out (by rw [hll, List.map_append]; exact HO6.out) (HA6.out.elim (fun h => .inl (by rw [h]; rfl)) (fun h => .inr ⟨gg, rfl, by omega⟩)) hbR hbase
    exact ⟨rfl, _, a1, HS.out.kr a2 ⟨_, HR.out.blk⟩, a3⟩
  · obtain ⟨bu, hbu⟩ := HPAR.out _ _ _ HB.out
    have c1' : w.cell? ⟨b, 1, none⟩ = some (.pointer (some ⟨bu, 0, none⟩)) := by rw [c1]; show some (ptrO (g.σ p)) = _; rw [hbu]; rfl
    clear c1
    go_enter Try.func52, Try.ntmps52
    go_wp2_with fail
    go_quiet (fail)
    go_wp2_with (at_builtin; refine wpList_append_lies _ rfl _ _ 66 rfl base 64 i0 _ 1 8 Try.underlying66 HI.out HZ0.out HZ1.out HZ2.out rfl (by omega) (.slice sA ns sc) ns _ rfl ((show (w.drewN nq).ownsRow base 64 1 (.slice sA ns sc) ns _ from HO.out).alloc _) ⟨w.heap.size, 0, none⟩ 1 1 [ptr b] rfl rfl (World.news_of_block (cs := #[ptr b]) (t := 64) (fr := (0, 0)) (heap_alloc_new (w.drewN nq) _)) (by simp [Value.oneCell']) (by omega) (by unfold maxLen; omega) (by omega) (by simp; omega) (w.heap.size + 1) (by simp) ?_)
    intro gg cap6 w6 hown6 hgrow6 hat6 hlt6
    have hg6 : Kb (fun i => some i = (Value.slice sA ns sc).ownBlock) w w6 := (Kb.of_below _ ((below_drewN _ w nq).alloc (Nat.le_refl _) _)).trans (Kb.of_grown hgrow6) (fun i _ h => h)
    have hR6 := (hg6.block R hRl (own_not HR.out.so HR.out.blk (by decide))).trans HR.out.blk
    have e3 : w6.cell? ⟨R, 3, none⟩ = some (.slice sA ns sc) := by rw [Lib.cell_of_heap hR6]; rfl
    have ef3 : w6.frozen? ⟨R, 3, none⟩ = false := Lib.frozen_of_heap hR6 3
    have HO6 := Lib.hid hown6; have HG6 := Lib.hid hg6; have HA6 := Lib.hid hat6
    clear hown6 hg6 hgrow6 hat6 hlt6 hR6
    go_wp2
    go_end0
    have hll : (Sl ++ [b]).length = ns + 1 := by rw [List.length_append, HNS.out]; rfl
    obtain ⟨a1, a2, a3⟩ := rn_push3 (new := [b]) HR.out HG6.out (by rw [hll, List.map_append]; exact HO6.out) (HA6.out.elim (fun h => .inl (by rw [h]; rfl)) (fun h => .inr ⟨gg, rfl, by omega⟩)) hbR hbase
    exact ⟨rfl, _, a1, HS.out.kr a2 ⟨_, HR.out.blk⟩, a3⟩

set_option maxRecDepth 100000 in
set_option maxHeartbeats 2000000 in
theorem begin_empty (w : World) (r : Rx) (g : Gh) (root base R τ b : Nat) (p : Path)  (bv ev sv : Value) (Bl El Sl : List Nat) (hs : SpAt w r g root) (hr : RnAt w base R τ bv ev sv Bl El Sl) (hb : g.σ p = some b) (he : r.at p = some .empty) (hbase : base ≤ w.heap.size) (hbR : base ≤ R) (hl : El.length ≤ 1048576) :
    Calls Try.prog 52 #[ptr R, ptr b] w fun e w' => e = .returned (.tuple #[]) ∧ ∃ v', RnAt w' base R τ bv v' sv Bl (El ++ [b]) Sl ∧ SpAt w' r g root ∧ Fr base w w' := by
  obtain ⟨e, nb, h1, h2, h3⟩ := hs.at' p b hb
  rw [he] at h1
  injection h1 with h1
  subst h1
  obtain ⟨A, n, hnb, hn⟩ := h2.blk
  obtain ⟨sA, sc, rfl, hs1, hs2⟩ := own_form hr.eo
  obtain ⟨ns, hns⟩ : ∃ ns, ns = El.length := ⟨_, rfl⟩
  have hr' : RnAt w base R τ bv (.slice sA ns sc) sv Bl El Sl := by rw [hns]; exact hr
  have hrb := hr'.blk
  have c0 : w.cell? ⟨b, 0, none⟩ = some (.pointer (some ⟨nb, 0, none⟩)) := by unfold SpB at h3; rw [Lib.cell_of_heap h3]; rfl
  have c1 : w.cell? ⟨b, 1, none⟩ = some (g.up p) := by unfold SpB at h3; rw [Lib.cell_of_heap h3]; rfl
  have d0 : w.cell? ⟨nb, 0, none⟩ = some (.int .i64 1) := by unfold NdB at hnb; rw [Lib.cell_of_heap hnb]; rfl
  have d5 : w.cell? ⟨nb, 5, none⟩ = some (.slice A 0 0) := by unfold NdB at hnb; rw [Lib.cell_of_heap hnb, hn]; rfl
  have r3 : w.cell? ⟨R, 2, none⟩ = some (.slice sA ns sc) := by rw [Lib.cell_of_heap hrb]; rfl
  have fr3 : w.frozen? ⟨R, 2, none⟩ = false := Lib.frozen_of_heap hrb 2
  obtain ⟨i0, hi0, hz0, hz1, hz2⟩ := info_parts Try.info64
  have HI := Lib.hid hi0; have HZ0 := Lib.hid hz0; have HZ1 := Lib.hid hz1; have HZ2 := Lib.hid hz2
  clear hi0 hz0 hz1 hz2
  rw [← hns] at hl hs1
  have HS := Lib.hid hs; have HR := Lib.hid hr'
  have HO := Lib.hid (show w.ownsRow base 64 1 (.slice sA ns sc) ns (El.map ptr) by rw [hns]; exact hr.eo)
  have HNS := Lib.hid hns
  have hRl := lt_of_heap hrb
  have HPAR := Lib.hid hs.par
  have HB := Lib.hid hb
  clear hs hr hr' h2 h3 hnb hn hrb hns hb he
  rcases p with _ | ⟨k, p⟩
  · have c1' : w.cell? ⟨b, 1, none⟩ = some (.pointer none) := c1
    clear c1
    go_enter Try.func52, Try.ntmps52
    go_wp2_with fail
    go_quiet (fail)
    go_wp2_with (at_builtin; refine wpList_append_lies _ rfl _ _ 66 rfl base 64 i0 _ 1 8 Try.underlying66 HI.out HZ0.out HZ1.out HZ2.out rfl (by omega) (.slice sA ns sc) ns _ rfl ((show (w.drewN nq).ownsRow base 64 1 (.slice sA ns sc) ns _ from HO.out).alloc _) ⟨w.heap.size, 0, none⟩ 1 1 [ptr b] rfl rfl (World.news_of_block (cs := #[ptr b]) (t := 64) (fr := (0, 0)) (heap_alloc_new (w.drewN nq) _)) (by simp [Value.oneCell']) (by omega) (by unfold maxLen; omega) (by omega) (by simp; omega) (w.heap.size + 1) (by simp) ?_)
    intro gg cap6 w6 hown6 hgrow6 hat6 hlt6
    have hg6 : Kb (fun i => some i = (Value.slice sA ns sc).ownBlock) w w6 := (Kb.of_below _ ((below_drewN _ w nq).alloc (Nat.le_refl _) _)).trans (Kb.of_grown hgrow6) (fun i _ h => h)
    have hR6 := (hg6.block R hRl (own_not HR.out.eo HR.out.blk (by decide))).trans HR.out.blk
    have e3 : w6.cell? ⟨R, 2, none⟩ = some (.slice sA ns sc) := by rw [Lib.cell_of_heap hR6]; rfl
    have ef3 : w6.frozen? ⟨R, 2, none⟩ = false := Lib.frozen_of_heap hR6 2
    have HO6 := Lib.hid hown6; have HG6 := Lib.hid hg6; have HA6 := Lib.hid hat6
    clear hown6 hg6 hgrow6 hat6 hlt6 hR6
    go_wp2
    go_end0
    have hll : (El ++ [b]).length = ns + 1 := by rw [List.length_append, HNS.out]; rfl
    obtain ⟨a1, a2, a3⟩ := rn_push2 (new := [b]) HR.out HG6.out (by rw [hll, List.map_append]; exact HO6.out) (HA6.out.elim (fun h => .inl (by rw [h]; rfl)) (fun h => .inr ⟨gg, rfl, by omega⟩)) hbR hbase
    exact ⟨rfl, _, a1, HS.out.kr a2 ⟨_, HR.out.blk⟩, a3⟩
  · obtain ⟨bu, hbu⟩ := HPAR.out _ _ _ HB.out
    have c1' : w.cell? ⟨b, 1, none⟩ = some (.pointer (some ⟨bu, 0, none⟩)) := by rw [c1]; show some (ptrO (g.σ p)) = _; rw [hbu]; rfl
    clear c1
    go_enter Try.func52, Try.ntmps52
    go_wp2_with fail
    go_quiet (fail)
    go_wp2_with (at_builtin; refine wpList_append_lies _ rfl _ _ 66 rfl base 64 i0 _ 1 8 Try.underlying66 HI.out HZ0.out HZ1.out HZ2.out rfl (by omega) (.slice sA ns sc) ns _ rfl ((show (w.drewN nq).ownsRow base 64 1 (.slice sA ns sc) ns _ from HO.out).alloc _) ⟨w.heap.size, 0, none⟩ 1 1 [ptr b] rfl rfl (World.news_of_block (cs := #[ptr b]) (t := 64) (fr := (0, 0)) (heap_alloc_new (w.drewN nq) _)) (by simp [Value.oneCell']) (by omega) (by unfold maxLen; omega) (by omega) (by simp; omega) (w.heap.size + 1) (by simp) ?_)
    intro gg cap6 w6 hown6 hgrow6 hat6 hlt6
    have hg6 : Kb (fun i => some i = (Value.slice sA ns sc).ownBlock) w w6 := (Kb.of_below _ ((below_drewN _ w nq).alloc (Nat.le_refl _) _)).trans (Kb.of_grown hgrow6) (fun i _ h => h)
    have hR6 := (hg6.block R hRl (own_not HR.out.eo HR.out.blk (by decide))).trans HR.out.blk
    have e3 : w6.cell? ⟨R, 2, none⟩ = some (.slice sA ns sc) := by rw [Lib.cell_of_heap hR6]; rfl
    have ef3 : w6.frozen? ⟨R, 2, none⟩ = false := Lib.frozen_of_heap hR6 2
    have HO6 := Lib.hid hown6; have HG6 := Lib.hid hg6; have HA6 := Lib.hid hat6
    clear hown6 hg6 hgrow6 hat6 hlt6 hR6
    go_wp2
    go_end0
    have hll : (El ++ [b]).length = ns + 1 := by rw [List.length_append, HNS.out]; rfl
    obtain ⟨a1, a2, a3⟩ := rn_push2 (new := [b]) HR.out HG6.out (by rw [hll, List.map_append]; exact HO6.out) (HA6.out.elim (fun h => .inl (by rw [h]; rfl)) (fun h => .inr ⟨gg, rfl, by omega⟩)) hbR hbase
    exact ⟨rfl, _, a1, HS.out.kr a2 ⟨_, HR.out.blk⟩, a3⟩

end Go.Proofs.Ytejdfpieblkapaa
