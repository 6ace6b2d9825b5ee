/- reach: what stands where between its steps; more of its mathematics. -/
import Derived.Test.YtejdfpieblkapaaGreatDoorG35
import Derived.Laws.IdiomStrings
namespace Go.Proofs.YtejdfpieblkapaaGreatDoor
open Go.RowKit Go.Shelf

structure RcF (w wr : World) (m : Value) (b2 ba bh ga gh nw : Nat) (A H : List Nat) : Prop where
  bl : Below w.heap.size w wr
  bm : wr.heap[b2]? = some (.cells #[m] 28 (0, 0))
  xa : wr.heap[ba]? = some (.cells #[bsV ga nw] 87 (0, 0))
  xh : wr.heap[bh]? = some (.cells #[bsV gh nw] 87 (0, 0))
  sa : BsAt wr ga A
  la : A.length = nw
  sh : BsAt wr gh H
  lh : H.length = nw
  ge : w.heap.size ≤ ga ∧ w.heap.size ≤ gh ∧ ga ≠ gh
section
variable {w wr w' : World} {m : Value} {b2 ba bh ga gh nw : Nat} {A H : List Nat}
theorem RcF.below (h : RcF w wr m b2 ba bh ga gh nw A H) (hb : Below wr.heap.size wr w') : RcF w w' m b2 ba bh ga gh nw A H :=
  ⟨h.bl.trans (hb.mono h.bl.size), (hb.block _ (lt_of_heap h.bm)).trans h.bm, (hb.block _ (lt_of_heap h.xa)).trans h.xa, (hb.block _ (lt_of_heap h.xh)).trans h.xh, h.sa.below hb, h.la, h.sh.below hb, h.lh, h.ge⟩
theorem not_bs {g : Nat} {ws : List Nat} {b : Nat} {cs : Array Value} {t : TypeId} {fz : Nat × Nat} (h : BsAt wr g ws) (hb : wr.heap[b]? = some (.cells cs t fz)) (ht : t ≠ 99) : b ≠ g := fun e => by
  rw [e, h.1] at hb
  injection hb with hb
  injection hb with _ h2 _
  exact ht h2.symm
theorem RcF.setH (h : RcF w wr m b2 ba bh ga gh nw A H) (hk : Kb (fun i => i = gh) wr w') {H' : List Nat} (hs : BsAt w' gh H') (hl : H'.length = nw) : RcF w w' m b2 ba bh ga gh nw A H' :=
  ⟨h.bl.trans (hk.below h.bl.size (fun i e => by rw [show i = gh from e]; exact h.ge.2.1)), (hk.block _ (lt_of_heap h.bm) (not_bs h.sh h.bm (by decide))).trans h.bm, (hk.block _ (lt_of_heap h.xa) (not_bs h.sh h.xa (by decide))).trans h.xa, (hk.block _ (lt_of_heap h.xh) (not_bs h.sh h.xh (by decide))).trans h.xh, h.sa.keep hk h.ge.2.2, h.la, hs, hl, h.ge⟩
theorem RcF.setA (h : RcF w wr m b2 ba bh ga gh nw A H) (hk : Kb (fun i => i = ga) wr w') {A' : List Nat} (hs : BsAt w' ga A') (hl : A'.length = nw) : RcF w w' m b2 ba bh ga gh nw A' H :=
  ⟨h.bl.trans (hk.below h.bl.size (fun i e => by rw [show i = ga from e]; exact h.ge.1)), (hk.block _ (lt_of_heap h.bm) (not_bs h.sa h.bm (by decide))).trans h.bm, (hk.block _ (lt_of_heap h.xa) (not_bs h.sa h.xa (by decide))).trans h.xa, (hk.block _ (lt_of_heap h.xh) (not_bs h.sa h.xh (by decide))).trans h.xh, hs, hl, h.sh.keep hk (fun e => h.ge.2.2 e.symm), h.lh, h.ge⟩
theorem RcF.cm (h : RcF w wr m b2 ba bh ga gh nw A H) (_hm : m.cells = #[m]) : wr.cell? ⟨b2, 0, none⟩ = some m := by rw [Lib.cell_of_heap h.bm]; rfl
theorem RcF.ca (h : RcF w wr m b2 ba bh ga gh nw A H) : wr.cell? ⟨ba, 0, none⟩ = some (bsV ga nw) := by rw [Lib.cell_of_heap h.xa]; rfl
theorem RcF.ch (h : RcF w wr m b2 ba bh ga gh nw A H) : wr.cell? ⟨bh, 0, none⟩ = some (bsV gh nw) := by rw [Lib.cell_of_heap h.xh]; rfl
end
/-- Where one may be ahead of all bytes, of the first k expressions. -/
def FsK (rs : List Rx) (k p : Nat) : Prop := ∃ (i : Nat) (l : List Nat), i < k ∧ (fstS rs 0)[i]? = some l ∧ p ∈ l
theorem FsK.zero (rs : List Rx) (p : Nat) : ¬ FsK rs 0 p := fun ⟨_, _, h, _⟩ => by omega
theorem FsK.succ {rs : List Rx} {k : Nat} {l : List Nat} (h : (fstS rs 0)[k]? = some l) (p : Nat) : FsK rs (k + 1) p ↔ FsK rs k p ∨ p ∈ l := by
  constructor
  · rintro ⟨i, l', h1, h2, h3⟩
    by_cases e : i = k
    · subst e
      rw [h] at h2; injection h2 with h2; subst h2
      exact .inr h3
    · exact .inl ⟨i, l', by omega, h2, h3⟩
  · rintro (⟨i, l', h1, h2, h3⟩ | h1)
    · exact ⟨i, l', by omega, h2, h3⟩
    · exact ⟨k, l, by omega, h, h1⟩
theorem FsK.all (rs : List Rx) (p : Nat) : FsK rs rs.length p ↔ FsS rs p := by
  constructor
  · rintro ⟨i, l, _, h2, h3⟩; exact ⟨i, l, h2, h3⟩
  · rintro ⟨i, l, h2, h3⟩; exact ⟨i, l, (fstS_get h2).1, h2, h3⟩
theorem nwd_div {p N : Nat} (h : p < N) : p / 64 < nwd N := by unfold nwd; omega
theorem take_mem {l : List Nat} {k x : Nat} (hx : l[k]? = some x) (q : Nat) : q ∈ l.take (k + 1) ↔ q ∈ l.take k ∨ q = x := by
  rw [List.take_add_one, hx]; simp
theorem bt_zero (n : Nat) (q : Nat) : ¬ bt (List.replicate n 0) q = true := by rw [bt_none]; simp
theorem cell_lt {w : World} {p : Addr} {v : Value} (h : w.cell? p = some v) : p.block < w.heap.size := by
  rcases Nat.lt_or_ge p.block w.heap.size with hl | hl
  · exact hl
  · have : w.heap[p.block]? = none := Array.getElem?_eq_none hl
    simp [World.cell?, this] at h
theorem cell_below {w w' : World} {p : Addr} {v : Value} (hb : Below w.heap.size w w') (h : w.cell? p = some v) : w'.cell? p = some v := (hb.cell (p := p) (cell_lt h)).trans h
/-- A row of positions of a machine, as it stands for good. -/
theorem MsAt.row {w : World} {B mb k : Nat} {rs : List Rx} {l : List Nat} (h : MsAt w B mb rs) (hl : (fstS rs 0)[k]? = some l) (hR : rs.length ≤ 1000) : ∃ (gf cf c' : Nat) (A' : Option Addr), w.cell? ⟨mb, 3, none⟩ = some (.slice (some ⟨gf, 0, none⟩) rs.length cf) ∧ rs.length ≤ cf ∧ cf ≤ 9223372036854775807 ∧ w.cell? ⟨gf, k, none⟩ = some (.slice A' l.length c') ∧ NsAt w A' l := by
  obtain ⟨As, Ar, A, Af, Al, Ae, cs, cr, c, cf, cl, ce, hm, _, _, ⟨fl, hf1, hf2⟩, _⟩ := h.cells
  obtain ⟨hi, _⟩ := fstS_get hl
  obtain ⟨v, hv, hrow, _⟩ := hf1.2 k l hl
  obtain ⟨gf, rfl, hcl, hcap, hcap2⟩ := own_cells hf2 (by omega)
  obtain ⟨A', c', rfl, _⟩ := own_form hrow
  exact ⟨gf, cf, c', A', by rw [Lib.cell_of_heap hm]; rfl, hcap2, hcap, hcl k _ hv, own_ns hrow⟩
theorem MsAt.rowL {w : World} {B mb k : Nat} {rs : List Rx} {l : List Nat} (h : MsAt w B mb rs) (hl : (lstS rs 0)[k]? = some l) (hR : rs.length ≤ 1000) : ∃ (gf cf c' : Nat) (A' : Option Addr), w.cell? ⟨mb, 4, none⟩ = some (.slice (some ⟨gf, 0, none⟩) rs.length cf) ∧ rs.length ≤ cf ∧ cf ≤ 9223372036854775807 ∧ w.cell? ⟨gf, k, none⟩ = some (.slice A' l.length c') ∧ NsAt w A' l := by
  obtain ⟨As, Ar, A, Af, Al, Ae, cs, cr, c, cf, cl, ce, hm, _, _, _, ⟨fl, hf1, hf2⟩, _⟩ := h.cells
  obtain ⟨hi, _⟩ := lstS_get hl
  obtain ⟨v, hv, hrow, _⟩ := hf1.2 k l hl
  obtain ⟨gf, rfl, hcl, hcap, hcap2⟩ := own_cells hf2 (by omega)
  obtain ⟨A', c', rfl, _⟩ := own_form hrow
  exact ⟨gf, cl, c', A', by rw [Lib.cell_of_heap hm]; rfl, hcap2, hcap, hcl k _ hv, own_ns hrow⟩
/-- What may stand behind a position, as it stands for good. -/
theorem MsAt.fo {w : World} {B mb p : Nat} {rs : List Rx} (h : MsAt w B mb rs) (hp : p < cntS rs) : ∃ (fg c gp : Nat) (ws : List Nat), w.cell? ⟨mb, 2, none⟩ = some (.slice (some ⟨fg, 0, none⟩) (cntS rs) c) ∧ cntS rs ≤ c ∧ c ≤ 9223372036854775807 ∧ w.cell? ⟨fg, p, none⟩ = some (bsV gp (nwd (cntS rs))) ∧ BsAt w gp ws ∧ ws.length = nwd (cntS rs) ∧ ∀ q, bt ws q = folS rs 0 p q := by
  obtain ⟨As, Ar, A, Af, Al, Ae, cs, cr, c, cf, cl, ce, hm, hs, _, _, _, _, ⟨gs, X, hfo⟩, hcap, hcap2⟩ := h.cells
  obtain ⟨fg, ws, cs', rfl, hcp, hfg, _, hbs, hlw, hbt, _⟩ := hfo.1 p hp
  exact ⟨fg, c, gs p, ws, by rw [Lib.cell_of_heap hm]; rfl, hcap, hcap2, hcp, hbs, hlw, hbt⟩
/-- clear. -/
theorem setCells_heap (g : Nat) : ∀ (n : Nat) (pre cs : List Value) (w : World), cs.length = n → w.heap[g]? = some (.cells (pre ++ cs).toArray 99 (0, 0)) → ∀ z : Value, (w.setCells g pre.length (List.replicate n z)).heap[g]? = some (.cells (pre ++ List.replicate n z).toArray 99 (0, 0)) := by
  intro n
  induction n with
  | zero => intro pre cs w hl h z; have : cs = [] := List.length_eq_zero_iff.1 hl; subst this; simpa [World.setCells] using h
  | succ n ih =>
    intro pre cs w hl h z
    cases cs with
    | nil => simp at hl
    | cons c cs =>
      have h1 := set_heap w g pre.length _ z _ _ h
      have h2 : (pre ++ c :: cs).toArray.set! pre.length z = ((pre ++ [z]) ++ cs).toArray := by simp
      rw [h2] at h1
      have h3 := ih (pre ++ [z]) cs _ (by simpa using hl) h1 z
      rw [List.replicate_succ]
      show ((w.setCell ⟨g, pre.length, none⟩ z).setCells g (pre.length + 1) (List.replicate n z)).heap[g]? = _
      rw [List.length_append] at h3
      simpa using h3
theorem kb_setCells (g : Nat) : ∀ (vs : List Value) (o : Nat) (w : World), Kb (fun i => i = g) w (w.setCells g o vs)
  | [], _, w => Kb.refl _ w
  | v :: vs, o, w => (Kb.setCell w ⟨g, o, none⟩ v).trans (kb_setCells g vs (o + 1) _) (fun _ _ h => h)
theorem BsAt.cleared {w : World} {g nw : Nat} {ws : List Nat} (h : BsAt w g ws) (hl : ws.length = nw) : BsAt (w.setCells g 0 (List.replicate nw (.int .u64 0))) g (List.replicate nw 0) := by
  refine ⟨?_, fun x hx => by rw [List.eq_of_mem_replicate hx]; decide⟩
  have := setCells_heap g nw [] (ws.map uv) w (by simpa using hl) (by simpa using h.1) (.int .u64 0)
  simpa [uv] using this
theorem Tryz.zv99 : ∀ w, (zeroValue 99).run Tryz.prog w = .ok (.int .u64 0) w := fun w => Tryz.zeroValue99 w
theorem run_clear (w : World) (g nw : Nat) (ws : List Nat) (h : BsAt w g ws) (hl : ws.length = nw) (ty : TypeId) : (Builtin.clear_ #[87] ty #[bsV g nw]).run Tryz.prog w = .ok (.tuple #[]) (w.setCells g 0 (List.replicate nw (.int .u64 0))) := by
  rcases Nat.eq_zero_or_pos nw with rfl | hp
  · simp [Builtin.clear_, run_underlying Tryz.underlying87, Result.andThen, World.setCells]
  · refine Lib.run_clear_slice w 87 99 ty _ Tryz.underlying87 Tryz.zv99 rfl rfl g 0 nw nw hp (fun j hj => ?_) (fun j hj => ?_)
    · rw [Nat.zero_add, (h.cell (i := j) (by omega)).1]; rfl
    · rw [Nat.zero_add]; exact (h.cell (i := j) (by omega)).2
/-- '[]byte(s)': a new block with just these bytes. -/
theorem conv_bytes (s : ByteArray) (w : World) (hs : s.size ≤ 1099511627776) : ∃ cp w1, (convert 9 147 (.string s)).run Tryz.prog w = .ok (.slice (some ⟨w.heap.size, 0, none⟩) s.size cp) w1 ∧ s.size ≤ cp ∧ cp ≤ 9223372036854775807 ∧ Below w.heap.size w w1 ∧
    ∃ C fz, w1.heap[w.heap.size]? = some (.cells C 5 fz) ∧ ∀ (i : Nat) (b : UInt8), s.data.toList[i]? = some b → C[i]? = some (.int .u8 b.toNat) := by
  refine ⟨_, _, run_bytes_of_string w 9 147 5 s Tryz.underlying9 Tryz.underlying147 Tryz.underlying5, grownCap_ge _ _ _ _, ?_, (Below.refl _ w).drew.alloc (Nat.le_refl _) _, ?_⟩
  · have := grownCap_le_maxLen w s.size 0 5 (by unfold maxLen; omega); unfold maxLen at this; omega
  · refine ⟨bytesRow s (grownCap w s.size 0 5), ((bytesRow s (grownCap w s.size 0 5)).size, (bytesRow s (grownCap w s.size 0 5)).size + 1), ?_, ?_⟩
    · show (w.heap.push _)[w.heap.size]? = _
      simp
    · intro i b hb
      obtain ⟨hlt, hget⟩ := List.getElem?_eq_some_iff.1 hb
      have hlt' : i < s.data.size := by simpa using hlt
      have h1 := bytesRow_at s (grownCap w s.size 0 5) i hlt'
      simp at hget
      rw [hget] at h1
      exact h1
/-- Where one may be ahead of the next byte. -/
def AhS (rs : List Rx) (u : List UInt8) (q : Nat) : Prop := (u = [] ∧ FsS rs q) ∨ (u ≠ [] ∧ ∃ p, RcS rs u p ∧ folS rs 0 p q = true)
theorem AhS.nil (rs : List Rx) (q : Nat) : AhS rs [] q ↔ FsS rs q := by simp [AhS]
theorem AhS.some (rs : List Rx) (u : List UInt8) (hu : u ≠ []) (q : Nat) : AhS rs u q ↔ ∃ p, RcS rs u p ∧ folS rs 0 p q = true := by simp [AhS, hu]
theorem RcS.of_ah (rs : List Rx) (u : List UInt8) (c : UInt8) (q : Nat) : RcS rs (u ++ [c]) q ↔ AhS rs u q ∧ hsS rs q c = true := by
  rcases List.eq_nil_or_concat u with rfl | ⟨v, d, rfl⟩
  · rw [AhS.nil]; exact RcS.one rs c q
  · rw [AhS.some rs _ (by simp), RcS.step rs _ (by simp)]
theorem AhS.lt {rs : List Rx} {u : List UInt8} {q : Nat} (h : AhS rs u q) : q < cntS rs := by
  rcases h with ⟨_, h⟩ | ⟨_, p, h1, h2⟩
  · exact h.lt
  · exact folS_lt h1.lt h2
/-- The calls that ranges have deferred: marks. -/
def mrk (D : Nat) : Deferred := { target := .collected D, args := #[] }
theorem leaves_marks {F : Fence} {n : Nat} {P : Program} {fn : Func} {tmps : Array Value} {R : Ending → World → Prop} : ∀ (Ds : List Nat) (w : World), Ds.Nodup → (∀ D ∈ Ds, w.heap[D]? = some (.deferred (some []))) →
    (∀ w', Kb (fun i => i ∈ Ds) w w' → LeavesIn F n P fn tmps R [] .returning w') → LeavesInM F n P fn tmps R (Ds.map mrk) .returning w
  | [], w, _, _, h => h w (Kb.refl _ w)
  | D :: Ds, w, hn, hd, h => by
    rw [List.nodup_cons] at hn
    have h0 := hd D (by simp)
    have hk : Kb (fun i => i = D) w (w.putObj D (.deferred none)) := Kb.of_grown (row := some D) (grownBy_putObj' w D _) |>.wider (fun i e => by injection e)
    refine ⟨by simp, .inl ⟨D, _, rfl, run_takeDeferred h0, leaves_marks Ds _ hn.2 (fun E hE => ?_) (fun w' hk' => h w' ((hk.wider (fun i e => ?_)).trans hk' (fun i _ hi => ?_)))⟩⟩
    · rw [hk.block E (lt_of_heap (hd E (by simp [hE]))) (fun e => hn.1 (by rw [← show E = D from e]; exact hE))]
      exact hd E (by simp [hE])
    · rw [show i = D from e]; simp
    · show i ∈ D :: Ds
      simp [show i ∈ Ds from hi]
/-- Between two bytes. -/
def RcL (w wr : World) (rs : List Rx) (m : Value) (b2 ba bh ga gh nw gs : Nat) (C : Array Value) (fz : Nat × Nat) (L : List UInt8) (i : Nat) (Ds : List Nat) : Prop :=
  ∃ A H, RcF w wr m b2 ba bh ga gh nw A H ∧ (∀ q, bt H q = true ↔ AhS rs (L.take i) q) ∧ (i ≠ 0 → ∀ q, bt A q = true ↔ RcS rs (L.take i) q) ∧ wr.heap[gs]? = some (.cells C 5 fz) ∧ Ds.Nodup ∧ ∀ D ∈ Ds, wr.heap[D]? = some (.deferred (some [])) ∧ w.heap.size ≤ D
end Go.Proofs.YtejdfpieblkapaaGreatDoor
