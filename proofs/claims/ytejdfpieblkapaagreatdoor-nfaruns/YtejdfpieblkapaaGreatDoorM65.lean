/- Carried from another seat. -/
import Derived.Test.YtejdfpieblkapaaGreatDoorM63
namespace Go.Proofs.YtejdfpieblkapaaGreatDoor
open Go.RowKit Go.Shelf

theorem st30o {ops : Array Oper} {rest : List Oper} {o : Oper} {a : Act} {w : World} {Q : Exit → Act → World → Prop} (hg : o.guard = none) (hd : o.dst = none) (x y : Operand) (ho : o.op = .store 36 x y) (g : Nat) (cs old : List Value) (hx : a.eval x = .pointer (some ⟨g, 0, none⟩)) (hy : a.eval y = .agg cs.toArray) (hb : w.heap[g]? = some (.cells old.toArray 36 (0, 0))) (hold : old.length = 258) (hl : cs.length = 258) (h1 : ∀ v ∈ cs, v.oneCell' = true)
    (h : wpList Tryz.prog ops Q rest a (w.setRow g cs.toArray)) : wpList Tryz.prog ops Q (o :: rest) a w := st30 hg x y ho g cs old hx hy hb hold hl h1 (by rw [hd]; exact h)
/-- or's state: the text, the result's box, two rows of nodes whose blocks are such (Q), and which are none of these. -/
structure OrM (w : World) (X : Nat) (s : ByteArray) (wr : World) (d : Int) (j : Nat) (bad great : Bool) (va : Value) (ways : List Rx) (ca : List Value) (vl : Value) (row : List Rx) (cl : List Value) (Q : Nat → Prop) : Prop where
  tx : TxB wr X s j d bad great
  res : RfB wr w.heap.size (fun _ => false)
  kb : Kb (fun k => k = X) w wr
  lo : ∀ k, Q k → w.heap.size + 1 ≤ k ∧ k < wr.heap.size
  oa : wr.ownsRow (w.heap.size + 1) 36 258 va ways.length ca
  ol : wr.ownsRow (w.heap.size + 1) 36 258 vl row.length cl
  ra : RfR Q wr ways ca
  rl : RfR Q wr row cl
  na : ∀ g, va.ownBlock = some g → ¬ Q g
  nl : ∀ g, vl.ownBlock = some g → ¬ Q g
  ne : ∀ g, va.ownBlock = some g → vl.ownBlock ≠ some g
section
variable {w : World} {X : Nat} {s : ByteArray} {wr : World} {d : Int} {j : Nat} {bad great : Bool} {va : Value} {ways : List Rx} {ca : List Value} {vl : Value} {row : List Rx} {cl : List Value} {Q : Nat → Prop}
theorem OrM.swap (H : OrM w X s wr d j bad great va ways ca vl row cl Q) : OrM w X s wr d j bad great vl row cl va ways ca Q := ⟨H.tx, H.res, H.kb, H.lo, H.ol, H.oa, H.rl, H.ra, H.nl, H.na, fun g h h2 => H.ne g h2 h⟩
theorem OrM.drop (H : OrM w X s wr d j bad great va ways ca vl row cl Q) : OrM w X s wr d j bad great va ways ca (.slice none 0 0) [] [] Q :=
  ⟨H.tx, H.res, H.kb, H.lo, H.oa, World.ownsRow_nil _ _ _ _, H.ra, rfl, H.na, (fun g h => by simp [Value.ownBlock] at h), (fun g _ h2 => by simp [Value.ownBlock] at h2)⟩
theorem own_kept {w w' : World} {base n : Nat} {v : Value} {xs : List Value} {ex : Nat → Prop} (h : w.ownsRow base 36 258 v n xs) (hk : Kb ex w w') (hx : ∀ g, v.ownBlock = some g → ¬ ex g) : w'.ownsRow base 36 258 v n xs := by
  refine ⟨h.1, ?_⟩
  rcases h.2 with hn | ⟨g, cap, cur, rfl, hb, hg, rest⟩
  · exact .inl hn
  · exact .inr ⟨g, cap, cur, rfl, hb, (hk.block g (lt_of_heap hg) (hx g rfl)).trans hg, rest⟩
theorem OrM.txk (H : OrM w X s wr d j bad great va ways ca vl row cl Q) (hX : X < w.heap.size) {w2 : World} {d' : Int} {j' : Nat} {bad' great' : Bool} (k : Kb (fun i => i = X) wr w2) (t : TxB w2 X s j' d' bad' great') : OrM w X s w2 d' j' bad' great' va ways ca vl row cl Q :=
  ⟨t, (k.block _ (lt_of_heap H.res) (by omega)).trans H.res, H.kb.trans k (fun _ _ h => h), (fun i h => ⟨(H.lo i h).1, Nat.lt_of_lt_of_le (H.lo i h).2 k.size⟩), own_kept H.oa k (fun g h he => by have := (H.oa.lt g h).1; omega), own_kept H.ol k (fun g h he => by have := (H.ol.lt g h).1; omega), H.ra.keep k (fun i _ h he => by have := (H.lo i h).1; omega), H.rl.keep k (fun i _ h he => by have := (H.lo i h).1; omega), H.na, H.nl, H.ne⟩
theorem OrM.below (H : OrM w X s wr d j bad great va ways ca vl row cl Q) (hX : X < w.heap.size) {w2 : World} (hb : Below wr.heap.size wr w2) : OrM w X s w2 d j bad great va ways ca vl row cl Q := H.txk hX (Kb.of_below _ hb) (H.tx.below hb)
/-- A node goes behind the row. -/
theorem OrM.add (H : OrM w X s wr d j bad great va ways ca vl row cl Q) (hX : X < w.heap.size) {w3 w6 : World} {d2 : Int} {j2 : Nat} {bad2 great2 : Bool} (hk : Kb (fun i => i = X) wr w3) (ht : TxB w3 X s j2 d2 bad2 great2) {r : Rx} {cs : List Value} (hq : RfQ (fun k => Q k ∨ wr.heap.size ≤ k) w3 r cs) {o : Obj} {g cap : Nat}
    (hown : w6.ownsRow (w.heap.size + 1) 36 258 (.slice (some ⟨g, 0, none⟩) (row.length + 1) cap) (row.length + 1) (cl ++ cs)) (hgrow : (w3.alloc o).grownBy w6 vl.ownBlock) (hat : vl.ownBlock = some g ∨ g = w3.heap.size + 1) :
    OrM w X s w6 d2 j2 bad2 great2 va ways ca (.slice (some ⟨g, 0, none⟩) (row.length + 1) cap) (row ++ [r]) (cl ++ cs) (fun k => Q k ∨ (wr.heap.size ≤ k ∧ k < w3.heap.size)) := by
  have hal : Below w3.heap.size w3 (w3.alloc o) := (Below.refl _ w3).alloc (Nat.le_refl _) o
  have k6 := Kb.of_grown hgrow
  have k36' : Kb (fun i => some i = vl.ownBlock) w3 w6 := (Kb.of_below _ hal).trans k6 (fun _ _ h => h)
  have k36 : Kb (fun i => i = X ∨ some i = vl.ownBlock) wr w6 := (hk.wider (fun _ h => .inl h)).trans (k36'.wider (fun _ h => .inr h)) (fun _ _ h => h)
  have hlb : ∀ k, vl.ownBlock = some k → w.heap.size + 1 ≤ k ∧ k < wr.heap.size := fun k h => H.ol.lt k h
  have hab : ∀ k, va.ownBlock = some k → w.heap.size + 1 ≤ k ∧ k < wr.heap.size := fun k h => H.oa.lt k h
  have hsz := hk.size
  have hsz6 := k36'.size
  have hR := lt_of_heap H.res
  refine ⟨?_, ?_, ?_, ?_, ?_, ?_, ?_, ?_, ?_, ?_, ?_⟩
  · exact (k36'.block X (lt_of_heap ht) (fun h => by have := hlb X h.symm; omega)).trans ht
  · exact (k36.block _ hR (fun h => by rcases h with h | h; omega; have := hlb _ h.symm; omega)).trans H.res
  · exact H.kb.trans k36 (fun i hi h => by rcases h with h | h; exact h; have := hlb _ h.symm; omega)
  · intro k h
    rcases h with h | h
    · have := H.lo k h; omega
    · omega
  · refine own_kept H.oa k36 (fun g0 h he => ?_)
    rcases he with he | he
    · have := hab g0 h; omega
    · exact H.ne g0 h he.symm
  · rw [List.length_append]; exact hown
  · refine (H.ra.keep k36 (fun i _ h he => ?_)).mono (fun i _ h => .inl h)
    rcases he with he | he
    · have := H.lo i h; omega
    · exact H.nl i he.symm h
  · refine RfR.snoc ?_ ((H.rl.keep k36 (fun i _ h he => ?_)).mono (fun i _ h => .inl h))
    · refine (hq.mono (Q' := fun k => Q k ∨ (wr.heap.size ≤ k ∧ k < w3.heap.size)) (fun i hi h => h.imp id (fun h => ⟨h, hi⟩))).keep k36' (fun i _ h he => ?_)
      rcases h with h | h
      · exact H.nl i he.symm h
      · have := hlb i he.symm; omega
    · rcases he with he | he
      · have := H.lo i h; omega
      · exact H.nl i he.symm h
  · intro g0 h hq'
    rcases hq' with hq' | hq'
    · exact H.na g0 h hq'
    · have := hab g0 h; omega
  · intro g0 h hq'
    have e : g = g0 := by simpa [Value.ownBlock] using h
    subst e
    rcases hat with hat | hat
    · rcases hq' with hq' | hq'
      · exact H.nl g hat hq'
      · have := hlb g hat; omega
    · rcases hq' with hq' | hq'
      · have := H.lo g hq'; omega
      · omega
  · intro g0 h h2
    have e : g = g0 := by simpa [Value.ownBlock] using h2
    subst e
    rcases hat with hat | hat
    · exact H.ne g h hat
    · have := hab g h; omega
/-- The row as pair wants it. -/
theorem OrM.pairs (H : OrM w X s wr d j bad great va ways ca vl row cl Q) : ∃ A cap, vl = .slice A row.length cap ∧ row.length ≤ cap ∧ (row ≠ [] → ∃ g o, A = some ⟨g, o, none⟩ ∧ g < wr.heap.size ∧ wr.rangeAt g o cl) := by
  rcases H.ol.2 with ⟨hv, h0⟩ | ⟨g, cap, cur, hv, hb, hg, hc, _⟩
  · refine ⟨none, 0, by rw [hv, h0], by omega, fun hne => ?_⟩
    exact absurd (List.eq_nil_of_length_eq_zero h0) hne
  · refine ⟨some ⟨g, 0, none⟩, cap, hv, hc, fun _ => ⟨g, 0, rfl, lt_of_heap hg, fun k v hkv => ?_⟩⟩
    have := H.ol.cells (g := g) (by rw [hv]; rfl) k v hkv
    rwa [Addr.add_mid] at this
end
/-- What was read of alternatives, in memory. -/
structure OrI (w : World) (X : Nat) (s : ByteArray) (d i : Nat) (great0 : Bool) (va vl : Value) (wr : World) (d' : Int) (j ia : Nat) (bad gr : Bool) (ways row : List Rx) : Prop where
  m : ∃ ca cl Q, OrM w X s wr d' j bad gr va ways ca vl row cl Q
  js : j ≤ s.size
  ia1 : i ≤ ia
  ia2 : ia ≤ s.size
  gr : gr = true → great0 = true ∨ ODead s.data.toList d i
  sw : szs ways + 998 * ways.length ≤ 1000 * (ia - i)
  lw : ways.length ≤ ia - i
  lr : row.length ≤ s.size + 1
  ok : bad = false → OrS s.data.toList d i ways row j ∧ d' = d ∧ ia ≤ j ∧ szs row + 3 * row.length ≤ 1000 * (j - ia) ∧ row.length ≤ j - ia
  bad : bad = true → ODead s.data.toList d i ∧ row ≠ [] ∧ szs ways + ways.length + szs row + row.length ≤ 3000 * (s.size + 1 - i) + 1
/-- A factor goes behind the row. -/
theorem OrI.fac {w : World} {X : Nat} {s : ByteArray} {d i : Nat} {great0 : Bool} {va vl : Value} {wr : World} {d' : Int} {j ia : Nat} {gr : Bool} {ways row : List Rx} (H : OrI w X s d i great0 va vl wr d' j ia false gr ways row) (hd : d ≤ 50) {w6 : World} {v6 : Value} {r : Rx} {gr2 : Bool} (hgr : gr2 = true → gr = true ∨ FDead s.data.toList d j)
    (hcase : (∃ j2, FacP s.data.toList d j r j2 ∧ j < j2 ∧ j2 ≤ s.size ∧ r.size + 3 ≤ 1000 * (j2 - j) ∧ ∃ ca cl Q, OrM w X s w6 d j2 false gr2 va ways ca v6 (row ++ [r]) cl Q) ∨ (∃ (j2 : Nat) (d2 : Int), j2 ≤ s.size ∧ r.size ≤ 3000 * (s.size + 1 - j) ∧ (∃ ca cl Q, OrM w X s w6 d2 j2 true gr2 va ways ca v6 (row ++ [r]) cl Q) ∧ FDead s.data.toList d j)) :
    ∃ d2 j2 bad2, OrI w X s d i great0 va v6 w6 d2 j2 ia bad2 gr2 ways (row ++ [r]) ∧ (bad2 = false → j < j2) := by
  obtain ⟨o1, o2, o3, o4, o5⟩ := H.ok rfl
  have hia := H.ia1
  have hgr' : gr2 = true → great0 = true ∨ ODead s.data.toList d i := fun h => by
    rcases hgr h with h | h
    · exact H.gr h
    · exact .inr (o1.dead h)
  have hsz : szs (row ++ [r]) = szs row + r.size := by rw [szs_append, szs_cons, szs_nil]; omega
  have hln : (row ++ [r]).length = row.length + 1 := by simp
  have hsw := H.sw; have hlw := H.lw; have hjs := H.js
  rcases hcase with ⟨j2, hf, hj, hj2, hr, hm⟩ | ⟨j2, d2, hj2, hr, hm, hdd⟩
  · exact ⟨d, j2, false, ⟨hm, hj2, H.ia1, H.ia2, hgr', H.sw, H.lw, by rw [hln]; omega, (fun _ => ⟨o1.fac hf hd, rfl, by omega, by rw [hsz, hln]; omega, by rw [hln]; omega⟩), (fun h => by cases h)⟩, fun _ => hj⟩
  · exact ⟨d2, j2, true, ⟨hm, hj2, H.ia1, H.ia2, hgr', H.sw, H.lw, by rw [hln]; omega, (fun h => by cases h), (fun _ => ⟨o1.dead hdd, by simp, by rw [hsz, hln]; omega⟩)⟩, fun h => by cases h⟩
/-- What is answered of the rows that were read. -/
theorem OrI.size {w : World} {X : Nat} {s : ByteArray} {d i : Nat} {great0 : Bool} {va vl : Value} {wr : World} {d' : Int} {j ia : Nat} {bad gr : Bool} {ways row : List Rx} (H : OrI w X s d i great0 va vl wr d' j ia bad gr ways row) : (bad = false → (orR (ways ++ [catR row])).size ≤ 1000 * (j - i) + 1) ∧ (bad = true → (orR (ways ++ [catR row])).size ≤ 3000 * (s.size + 1 - i)) := by
  have h1 := orR_sz (ways ++ [catR row]) (by simp)
  rw [szs_append, szs_cons, szs_nil, List.length_append] at h1
  have h1' : (orR (ways ++ [catR row])).size + 1 = szs ways + ((catR row).size + 0) + (ways.length + 1) := h1
  have hsw := H.sw
  have hia := H.ia1
  refine ⟨fun hb => ?_, fun hb => ?_⟩
  · obtain ⟨_, _, o3, o4, o5⟩ := H.ok hb
    have hc : (catR row).size ≤ 1000 * (j - ia) + 1 := by
      by_cases hr : row = []
      · rw [hr]; show 1 ≤ _; omega
      · have := catR_sz row hr
        omega
    omega
  · obtain ⟨_, hr, o3⟩ := H.bad hb
    have := catR_sz row hr
    omega
/-- The whole in its box, at the end. -/
structure FnS (w : World) (X : Nat) (s : ByteArray) (wr : World) (d : Int) (j : Nat) (bad great : Bool) (r : Rx) (cs : List Value) (B : Nat) : Prop where
  tx : TxB wr X s j d bad great
  res : RfB wr w.heap.size (fun _ => false)
  nd : wr.heap[B]? = some (.cells cs.toArray 36 (0, 0))
  rf : RfQ (fun k => w.heap.size + 1 ≤ k) wr r cs
  kb : Kb (fun k => k = X) w wr
  bl : w.heap.size + 1 ≤ B
section
variable {w : World} {X : Nat} {s : ByteArray} {wr w2 : World} {d d' : Int} {j j' : Nat} {bad bad' great great' : Bool} {r : Rx} {cs : List Value} {B : Nat}
theorem FnS.txk (H : FnS w X s wr d j bad great r cs B) (hX : X < w.heap.size) (k : Kb (fun i => i = X) wr w2) (t : TxB w2 X s j' d' bad' great') : FnS w X s w2 d' j' bad' great' r cs B :=
  ⟨t, (k.block _ (lt_of_heap H.res) (by omega)).trans H.res, (k.block _ (lt_of_heap H.nd) (by have := H.bl; omega)).trans H.nd, H.rf.keep k (fun i _ h he => by omega), H.kb.trans k (fun _ _ h => h), H.bl⟩
theorem FnS.below (H : FnS w X s wr d j bad great r cs B) (hX : X < w.heap.size) (hb : Below wr.heap.size wr w2) : FnS w X s w2 d j bad great r cs B := H.txk hX (Kb.of_below _ hb) (H.tx.below hb)
theorem FnS.fin (H : FnS w X s wr d j bad great r cs B) (hX : X < w.heap.size) : Kb (fun k => k = X) w (wr.setRow w.heap.size cs.toArray) ∧ TxB (wr.setRow w.heap.size cs.toArray) X s j d bad great ∧ (wr.setRow w.heap.size cs.toArray).heap[w.heap.size]? = some (.cells cs.toArray 36 (0, 0)) ∧ RfQ (fun k => w.heap.size ≤ k) (wr.setRow w.heap.size cs.toArray) r cs :=
  have kb := setRow_kb wr w.heap.size cs.toArray
  ⟨H.kb.trans kb (fun i hi h => by omega), (kb.block _ (lt_of_heap H.tx) (by omega)).trans H.tx, setRow_heap wr _ _ _ 36 (0, 0) H.res, (H.rf.keep kb (fun i _ h he => by omega)).mono (fun i _ h => by omega)⟩
theorem OrM.box {va : Value} {ways : List Rx} {ca : List Value} {vl : Value} {row : List Rx} {cl : List Value} {Q : Nat → Prop} (H : OrM w X s wr d j bad great va ways ca vl row cl Q) (_hX : X < w.heap.size) (hq : RfQ (fun k => Q k ∨ wr.heap.size ≤ k) w2 r cs) (hb : Below wr.heap.size wr w2) :
    FnS w X s ((w2.alloc (.cells Tryz.zeroCells36 36)).setRow w2.heap.size cs.toArray) d j bad great r cs w2.heap.size := by
  have hR := lt_of_heap H.res
  have h2 := hb.size
  have hal : Below w2.heap.size w2 (w2.alloc (.cells Tryz.zeroCells36 36)) := (Below.refl _ w2).alloc (Nat.le_refl _) _
  have kb := setRow_kb (w2.alloc (.cells Tryz.zeroCells36 36)) w2.heap.size cs.toArray
  have k2 : Kb (fun i => i = w2.heap.size) w2 ((w2.alloc (.cells Tryz.zeroCells36 36)).setRow w2.heap.size cs.toArray) := (Kb.of_below _ hal).trans kb (fun _ _ h => h)
  have t2 := H.tx.below hb
  have r2 := (hb.block _ hR).trans H.res
  refine ⟨(k2.block X (lt_of_heap t2) (by have := lt_of_heap t2; omega)).trans t2, (k2.block _ (lt_of_heap r2) (by have := lt_of_heap r2; omega)).trans r2, setRow_heap _ _ _ _ 36 (0, 0) (alloc_res w2), (hq.keep k2 (fun i hi _ he => by omega)).mono (fun i _ h => ?_), (H.kb.trans (Kb.of_below _ hb) (fun _ _ h => h)).trans k2 (fun i hi h => ?_), by omega⟩
  · rcases h with h | h
    · exact (H.lo i h).1
    · omega
  · have := H.kb.size; omega
end
/-- What or answers, of what was read. -/
theorem OrI.to {w : World} {X : Nat} {s : ByteArray} {d i : Nat} {great0 : Bool} {va vl : Value} {wr : World} {d' : Int} {j ia : Nat} {bad gr : Bool} {ways row : List Rx} (H : OrI w X s d i great0 va vl wr d' j ia bad gr ways row) (hX : X < w.heap.size) (hL : s.data.toList.length = s.size) (hend : bad = false → j = s.size ∨ nx s.data.toList j = 41) {w9 : World} {cs : List Value} {gr' : Bool} {B : Nat} (hF : FnS w X s w9 d' j bad gr' (orR (ways ++ [catR row])) cs B) (hg : gr' = true → gr = true ∨ 400 < (orR (ways ++ [catR row])).size) : OrTo X s d i great0 w (.returned (.agg cs.toArray)) (w9.setRow w.heap.size cs.toArray) := by
  obtain ⟨k1, k2, _, k4⟩ := hF.fin hX
  obtain ⟨z1, z2⟩ := H.size
  refine ⟨_, cs, gr', rfl, k4, k1, fun h => ?_, ?_⟩
  · rcases hg h with h | h
    · exact (H.gr h).imp id .inl
    · exact .inr (.inr h)
  · cases bad with
    | false =>
      obtain ⟨o1, o2, o3, _, _⟩ := H.ok rfl
      subst o2
      have := H.ia1
      exact .inl ⟨j, o1.last (by rw [hL]; exact hend rfl), by omega, H.js, hend rfl, z1 rfl, k2⟩
    | true => exact .inr ⟨j, d', H.js, z2 rfl, k2, (H.bad rfl).1⟩
end Go.Proofs.YtejdfpieblkapaaGreatDoor
