/- What swap does. -/
import Derived.Test.YtpifobaejmfppaaN12
import Derived.Deep.RegionHeld3
namespace Go.Proofs.Ytpifobaejmfppaa
open Go.RowKit

theorem own_more {w : World} {base base' e size n : Nat} {v : Value} {xs : List Value} (h : w.ownsRow base e size v n xs) (hb : base' ≤ base) : w.ownsRow base' e size v n xs := by
  refine ⟨h.1, ?_⟩
  rcases h.2 with hn | ⟨g, cap, cur, hv, hbb, rest⟩
  · exact .inl hn
  · exact .inr ⟨g, cap, cur, hv, by omega, rest⟩

/-- A row of edits stands, where rows of pieces and three blocks alone are changed. -/
theorem own_kc {base b0 Bo Bz Bc n : Nat} {w w' : World} {v : Value} {xs : List Value} (h : w.ownsRow b0 35 3 v n xs) (hk : Kc base Bo Bz Bc w w') (hc : ∀ g, v.ownBlock = some g → g ≠ Bc ∧ g ≠ Bo ∧ g ≠ Bz) : w'.ownsRow b0 35 3 v n xs := by
  refine ⟨h.1, ?_⟩
  rcases h.2 with hn | ⟨g, cap, cur, hv, hbb, hgg, rest⟩
  · exact .inl hn
  · have := hc g (by rw [hv]; rfl)
    exact .inr ⟨g, cap, cur, hv, hbb, hk.heap hgg (by decide) this.1 this.2.1 this.2.2, rest⟩

theorem own_ne35 {w : World} {b0 b t n : Nat} {v u : Value} {xs : List Value} (h : w.ownsRow b0 35 3 v n xs) (hb : One w b t u) (ht : t ≠ 35) : ∀ g, v.ownBlock = some g → g ≠ b := by
  intro g hg e
  exact own_ne1 h hb ht (by rw [hg, e])

theorem PutAt.o {w : World} {base Bc Bo Bz : Nat} {C : List UInt8} (h : PutAt w base Bc Bo Bz C) : (∃ A n c, One w Bo 87 (.slice A n c)) ∧ One w Bz 3 (.int .i64 C.length) := by
  obtain ⟨A, n, c, Lp, hs, _⟩ := h
  exact ⟨⟨A, n, c, hs.ho⟩, hs.hz⟩

theorem CuAt.blk {w : World} {Bc G : Nat} {L0 : List Pc} {R : List UInt8} (h : CuAt w Bc G L0 R) : ∃ x y, w.heap[Bc]? = some (.cells #[x, y] 99 (0, 0)) := by
  obtain ⟨L, nl, off, A, c, hc, _⟩ := h
  exact ⟨_, _, hc.blk⟩

/-- Where the back row does not lie. -/
theorem back_far {w : World} {b0 base Bc Bo Bz G n : Nat} {v : Value} {xs : List Value} {C R : List UInt8} {L0 : List Pc} (h : w.ownsRow b0 35 3 v n xs) (hp : PutAt w base Bc Bo Bz C) (hc : CuAt w Bc G L0 R) : ∀ g, v.ownBlock = some g → g ≠ Bc ∧ g ≠ Bo ∧ g ≠ Bz := by
  intro g hg
  obtain ⟨⟨A, m, c, ho⟩, hz⟩ := hp.o
  refine ⟨?_, own_ne35 h ho (by decide) g hg, own_ne35 h hz (by decide) g hg⟩
  obtain ⟨x, y, hb⟩ := hc.blk
  rintro rfl
  rcases h.2 with ⟨rfl, _⟩ | ⟨g', cap, cur, rfl, _, hgg, _⟩
  · simp [Value.ownBlock] at hg
  · have : g' = g := by simpa [Value.ownBlock] using hg
    subst this
    rw [hb] at hgg
    injection hgg with hgg
    injection hgg with _ h2
    exact absurd h2 (by decide)

/-- What swap's loop keeps. -/
structure SwL (w : World) (Bo Bz G : Nat) (L0 : List Pc) (T C : List UInt8) (x : Nat) (back : Value) (k : Nat) (dn : List Ed) (wr : World) : Prop where
  put : PutAt wr (w.heap.size + 1) w.heap.size Bo Bz C
  cut : CuAt wr w.heap.size G L0 (T.drop x)
  own : wr.ownsRow w.heap.size 35 3 back k (edCells dn)
  bel : Below w.heap.size w wr
  sz : w.heap.size + 1 ≤ wr.heap.size
  bo : w.heap.size + 1 ≤ Bo
  bz : w.heap.size + 1 ≤ Bz
  ob : Bo < wr.heap.size
  zb : Bz < wr.heap.size

theorem SwL.alloc {w wr : World} {Bo Bz G : Nat} {L0 : List Pc} {T C : List UInt8} {x : Nat} {back : Value} {k : Nat} {dn : List Ed} (h : SwL w Bo Bz G L0 T C x back k dn wr) (o : Obj) : SwL w Bo Bz G L0 T C x back k dn (wr.alloc o) :=
  ⟨h.put.same (by omega) h.bo h.bz (fun i hi _ => Below.heap_alloc wr o i hi), h.cut.same (fun i hi => Below.heap_alloc wr o i hi), h.own.alloc _, h.bel.alloc h.bel.size _, by simp; have := h.sz; omega, h.bo, h.bz, by simp; have := h.ob; omega, by simp; have := h.zb; omega⟩

theorem SwL.step {w wr w' : World} {Bo Bz G : Nat} {L0 : List Pc} {T C C' : List UInt8} {x x' : Nat} {back : Value} {k : Nat} {dn : List Ed} (h : SwL w Bo Bz G L0 T C x back k dn wr) (hp : PutAt w' (w.heap.size + 1) w.heap.size Bo Bz C') (hc : CuAt w' w.heap.size G L0 (T.drop x')) (hk : Kc (w.heap.size + 1) Bo Bz w.heap.size wr w') : SwL w Bo Bz G L0 T C' x' back k dn w' :=
  ⟨hp, hc, own_kc h.own hk (back_far h.own h.put h.cut), h.bel.trans (hk.below (by have := h.sz; omega) (by omega) (by have := h.bo; omega) (by have := h.bz; omega) (by omega)), Nat.le_trans h.sz hk.size, h.bo, h.bz, Nat.lt_of_lt_of_le h.ob hk.size, Nat.lt_of_lt_of_le h.zb hk.size⟩

theorem SwL.below {w wr w' : World} {Bo Bz G : Nat} {L0 : List Pc} {T C : List UInt8} {x : Nat} {back : Value} {k : Nat} {dn : List Ed} (h : SwL w Bo Bz G L0 T C x back k dn wr) (hb : Below wr.heap.size wr w') : SwL w Bo Bz G L0 T C x back k dn w' :=
  h.step (h.put.same (by omega) h.bo h.bz (fun i hi _ => hb.block i hi)) (h.cut.same (fun i hi => hb.block i hi)) (Kc.of_below hb)

theorem CuAt.kc {base Bo Bz Bc G : Nat} {L0 : List Pc} {R : List UInt8} {w w' : World} (h : CuAt w Bc G L0 R) (hk : Kc base Bo Bz Bc w w') (hB : w'.heap[Bc]? = w.heap[Bc]?) (hb : Bc < base) (h1 : base ≤ Bo) (h2 : base ≤ Bz) (hG : G < Bc) (hL : ∀ p ∈ L0, p.g < Bc) : CuAt w' Bc G L0 R := by
  obtain ⟨L, nl, off, A, c, hc, hp, hr, ha⟩ := h
  have hl := lt_of_heap hc.blk
  refine ⟨L, nl, off, A, c, hc.sameAt hB (fun ad e => ?_) (fun p hpm => ?_), hp, hr, ha⟩
  · rw [ha ad e]; exact hk.block G (by omega) (by omega) (by omega) (by omega) (.inl (by omega))
  · have := hL p (by obtain ⟨pre, e⟩ := hp; rw [e]; exact List.mem_append_right _ hpm)
    exact hk.block p.g (by omega) (by omega) (by omega) (by omega) (.inl (by omega))

theorem PutAt.far {w w' : World} {base Bc Bo Bz : Nat} {C : List UInt8} (h : PutAt w base Bc Bo Bz C) (hh : ∀ (i : Nat) (cs : Array Value) (t : TypeId) (fz : Nat × Nat), w.heap[i]? = some (Obj.cells cs t fz) → t ≠ 35 → w'.heap[i]? = some (Obj.cells cs t fz)) : PutAt w' base Bc Bo Bz C := by
  obtain ⟨A, n, c, Lp, hs, hl, hp, ht⟩ := h
  refine ⟨A, n, c, Lp, ⟨hh _ _ _ _ hs.ho (by decide), hh _ _ _ _ hs.hz (by decide), ⟨hs.own.1, ?_⟩⟩, hl, fun q hq => ⟨?_, (hp q hq).2⟩, ht⟩
  · rcases hs.own.2 with hn | ⟨g, cap, cur, hv, hbb, hgg, rest⟩
    · exact .inl hn
    · exact .inr ⟨g, cap, cur, hv, hbb, hh _ _ _ _ hgg (by decide), rest⟩
  · obtain ⟨cur, fz, hg, hb⟩ := (hp q hq).1
    exact ⟨cur, fz, hh _ _ _ _ hg (by decide), hb⟩

theorem CuAt.far {w w' : World} {Bc G : Nat} {L0 : List Pc} {R : List UInt8} (h : CuAt w Bc G L0 R) (hh : ∀ (i : Nat) (cs : Array Value) (t : TypeId) (fz : Nat × Nat), w.heap[i]? = some (Obj.cells cs t fz) → t ≠ 35 → w'.heap[i]? = some (Obj.cells cs t fz)) : CuAt w' Bc G L0 R := by
  obtain ⟨L, nl, off, A, c, hc, hp, hr, ha⟩ := h
  refine ⟨L, nl, off, A, c, ⟨hh _ _ _ _ hc.blk (by decide), hc.len, hc.cap, hc.mx, ?_, fun p hpm => ⟨?_, (hc.at' p hpm).2⟩, hc.off⟩, hp, hr, ha⟩
  · intro hne
    obtain ⟨g, o, cur, fz, hA, hg, hrr⟩ := hc.pcs hne
    exact ⟨g, o, cur, fz, hA, hh _ _ _ _ hg (by decide), hrr⟩
  · obtain ⟨cur, fz, hg, hb⟩ := (hc.at' p hpm).1
    exact ⟨cur, fz, hh _ _ _ _ hg (by decide), hb⟩

theorem SwL.push {w w9 w6 : World} {Bo Bz G : Nat} {L0 : List Pc} {T C : List UInt8} {x : Nat} {back back' : Value} {k : Nat} {dn : List Ed} {e : Ed} {o : Obj} (h : SwL w Bo Bz G L0 T C x back k dn w9) (hown : w6.ownsRow w.heap.size 35 3 back' (k + 1) (edCells dn ++ Ed.cells e)) (hg : (w9.alloc o).grownBy w6 back.ownBlock) : SwL w Bo Bz G L0 T C x back' (k + 1) (dn ++ [e]) w6 := by
  have hh : ∀ (i : Nat) (cs : Array Value) (t : TypeId) (fz : Nat × Nat), w9.heap[i]? = some (Obj.cells cs t fz) → t ≠ 35 → w6.heap[i]? = some (Obj.cells cs t fz) := by
    intro i cs t fz hi ht
    have hl := lt_of_heap hi
    refine (hg.block i (by simp; omega) ?_).trans ((Below.heap_alloc w9 o i hl).trans hi)
    intro e
    rcases h.own.2 with ⟨hv, _⟩ | ⟨g, cap, cur, hv, _, hgg, _⟩
    · rw [hv] at e; simp [Value.ownBlock] at e
    · rw [hv] at e
      have : i = g := by simpa [Value.ownBlock] using e
      subst this
      rw [hi] at hgg
      injection hgg with hgg
      injection hgg with _ h2
      exact ht h2
  have hsz : w9.heap.size ≤ w6.heap.size := by have := hg.size; simp at this; omega
  refine ⟨h.put.far hh, h.cut.far hh, ?_, ?_, Nat.le_trans h.sz hsz, h.bo, h.bz, Nat.lt_of_lt_of_le h.ob hsz, Nat.lt_of_lt_of_le h.zb hsz⟩
  · rw [edCells_append]
    have : edCells [e] = Ed.cells e := by simp [edCells]
    rw [this]; exact hown
  · exact (h.bel.alloc h.bel.size o).grown hg (by simp; have := h.bel.size; omega) (fun g hgg => (h.own.lt g hgg).1)

theorem pcAt_new (w : World) (s : ByteArray) (cp : Nat) (_hc : s.size ≤ cp) : PcAt (w.drew.alloc (.cells (bytesRow s cp) 5 ((bytesRow s cp).size, (bytesRow s cp).size + 1))) ⟨w.heap.size, 0, s.data.toList⟩ := by
  refine ⟨bytesRow s cp, _, by show (w.heap.push _)[w.heap.size]? = _; simp; rfl, fun i b hi => ?_⟩
  rw [Nat.zero_add]
  have hi' : s.data.toList[i]? = some b := hi
  obtain ⟨hlt, hget⟩ := List.getElem?_eq_some_iff.1 hi'
  have hlt' : i < s.data.size := by simpa using hlt
  rw [bytesRow_at s cp i hlt']
  simp at hget
  rw [hget]

theorem held_grown {w9 w6 : World} {o : Obj} {r : Option Nat} {a b : Nat} {u v x : Value} (h0 : w9.cell? ⟨a, 0, none⟩ = some u) (h1 : w9.cell? ⟨a, 1, none⟩ = some v) (h2 : w9.cell? ⟨b, 0, none⟩ = some x) (hg : (w9.alloc o).grownBy w6 r) (n1 : some a ≠ r) (n2 : some b ≠ r) (l1 : a < w9.heap.size) (l2 : b < w9.heap.size) : w6.cell? ⟨a, 0, none⟩ = some u ∧ w6.cell? ⟨a, 1, none⟩ = some v ∧ w6.cell? ⟨b, 0, none⟩ = some x := by
  have hal : Below w9.heap.size w9 (w9.alloc o) := (Below.refl _ w9).alloc (Nat.le_refl _) o
  exact ⟨((hg.cell_far ⟨a, 0, none⟩ (by simp; omega) n1).trans (hal.cell l1)).trans h0, ((hg.cell_far ⟨a, 1, none⟩ (by simp; omega) n1).trans (hal.cell l1)).trans h1, ((hg.cell_far ⟨b, 0, none⟩ (by simp; omega) n2).trans (hal.cell l2)).trans h2⟩

/-- What swap answers. -/
def SwapBack (base Bf : Nat) (p f : Value) (made : Int) (T : List UInt8) (l : List Ed) (w : World) (e : Ending) (w' : World) : Prop :=
  ∃ A2 c2 A' c' L', e = .returned (.slice A2 l.length c2) ∧ TxAt w' base Bf p f made A' L'.length c' L' (appl T 0 l) ∧ w'.ownsRow w.heap.size 35 3 (.slice A2 l.length c2) l.length (edCells (turn T 0 l)) ∧ Kb (fun i => i = Bf) w w'

set_option maxRecDepth 100000 in
set_option maxHeartbeats 4000000 in
theorem swap_any (base Bf : Nat) (p f : Value) (made : Int) (A : Option Addr) (n c : Nat) (L : List Pc) (T : List UInt8) (EA : Option Addr) (len cap : Nat) (l : List Ed) (w : World) (h : TxAt w base Bf p f made A n c L T) (hbase : base ≤ w.heap.size)
    (hlen : l.length = len) (_hl : len ≤ cap) (_hcap : cap ≤ 9223372036854775807) (hsm : len ≤ 100000) (hE : EdsAt w w.heap.size EA l) (hR : rightB 0 T.length l = true) (hT : T.length ≤ 1048576) (hA : (appl T 0 l).length ≤ 1048576) :
    Calls Try.prog 57 #[.pointer (some ⟨Bf, 0, none⟩), .slice EA len cap] w (SwapBack base Bf p f made T l w) := by
  obtain ⟨hcut, hrem, G, hG, hAG⟩ := h.cut
  have hcu : CuAt (w.alloc (.cells #[.slice A n c, .int .i64 0] 99)) w.heap.size G L (T.drop 0) := ⟨L, n, 0, A, c, hcut, ⟨[], rfl⟩, by rw [List.drop_zero]; exact hrem, hAG⟩
  have hn : n ≤ 1048576 := by
    have := pcText_len L (fun q hq => (h.pcs q hq).2.1)
    rw [h.tx, h.ln] at this; omega
  have c3 := h.bf.c3
  have c4 := h.bf.c4
  have hBl := h.bf.lt
  have hLg : ∀ q ∈ L, q.g < w.heap.size := fun q hq => pc_lt (h.pcs q hq).1
  obtain ⟨z, hz⟩ : ∃ z, z = T.length := ⟨_, rfl⟩
  rw [← hz] at c4 hT hR
  have HZ := Lib.hid hz
  have HCU := Lib.hid hcu; have HLG := Lib.hid hLg; have HH := Lib.hid h; have HR := Lib.hid hR; have HA := Lib.hid hA; have HL := Lib.hid hlen
  clear hcut hrem hAG hz hcu hLg h hR hA hlen
  obtain ⟨i0, hi0, hz0, hz1, hz2⟩ := info_parts Try.info64
  have HI := Lib.hid hi0; have HZ0 := Lib.hid hz0; have HZ1 := Lib.hid hz1; have HZ2 := Lib.hid hz2
  clear hi0 hz0 hz1 hz2
  obtain ⟨i1, hi0, hz0, hz1, hz2⟩ := info_parts Try.info35
  have HI' := Lib.hid hi0; have HZ0' := Lib.hid hz0; have HZ1' := Lib.hid hz1; have HZ2' := Lib.hid hz2
  clear hi0 hz0 hz1 hz2
  have hc3' : (w.alloc (.cells #[.slice A n c, .int .i64 0] 99)).cell? ⟨Bf, 3, none⟩ = some (.slice A n c) := by
    have := HH.out.bf.kb (Kb.of_below (fun _ => False) ((Below.refl w.heap.size w).alloc (Nat.le_refl _) (.cells #[.slice A n c, .int .i64 0] 99))) (fun h => h)
    exact this.c3
  go_enter Try.func57, Try.ntmps57
  go_wp2_with (at_make; refine wpList_make_own _ rfl _ _ 87 rfl (w.heap.size + 1) 64 i0 _ 1 Try.underlying87 HI.out HZ0.out HZ1.out .i64 .i64 ((n : Int) + 2 * (len : Int)) (n + 2 * len) rfl rfl (by omega) (by rw [HZ2.out]; omega) (by unfold maxLen; omega) (by simp) ?_)
  intro w2 hown2 hg2
  go_wp2_with (at_make; refine wpList_make_own _ rfl _ _ 22 rfl w.heap.size 35 i1 _ 3 Try.underlying22 HI'.out HZ0'.out HZ1'.out .i64 .i64 (len : Int) len rfl rfl rfl (by rw [HZ2'.out]; omega) (by unfold maxLen; omega) (by have := hg2.size; simp at this ⊢; omega) ?_)
  intro w3 hown3 hg3
  have hs2 : w.heap.size + 1 ≤ w2.heap.size := by have := hg2.size; simp at this; omega
  have hs3 : w2.heap.size + 2 ≤ w3.heap.size := by have := hg3.size; simp at this; omega
  have hkeep : ∀ i, i < (w.alloc (.cells #[.slice A n c, .int .i64 0] 99)).heap.size → w3.heap[i]? = (w.alloc (.cells #[.slice A n c, .int .i64 0] 99)).heap[i]? := by
    intro i hi
    simp at hi
    refine (hg3.block i (by simp; omega) (by simp)).trans ?_
    refine (Below.heap_alloc _ _ i (by simp; omega)).trans ((Below.heap_alloc _ _ i (by omega)).trans (hg2.block i (by simp; omega) (by simp)))
  have hkeep2 : ∀ i, i < w2.heap.size → w3.heap[i]? = w2.heap[i]? := by
    intro i hi
    refine (hg3.block i (by simp; omega) (by simp)).trans ?_
    exact (Below.heap_alloc _ _ i (by simp; omega)).trans (Below.heap_alloc _ _ i (by omega))
  have hst : SwL w w2.heap.size (w2.heap.size + 1) G L T [] 0 (.slice (some ⟨w2.heap.size + 1 + 1, 0, none⟩) 0 len) 0 [] w3 := by
    refine ⟨⟨some ⟨w.heap.size + 1, 0, none⟩, 0, n + 2 * len, [], ⟨?_, ?_, ?_⟩, rfl, by simp, rfl⟩, HCU.out.same hkeep, hown3, ?_, by omega, by omega, by omega, by omega, by omega⟩
    · exact (hg3.block _ (by simp; omega) (by simp)).trans ((Below.heap_alloc _ _ _ (by simp)).trans (heap_alloc_new w2 _))
    · refine (hg3.block _ (by simp) (by simp)).trans ?_
      have := heap_alloc_new (w2.alloc (.cells #[.slice (some ⟨w.heap.size + 1, 0, none⟩) 0 (n + 2 * len)] 87)) (.cells #[.int .i64 0] 3)
      rwa [World.size_alloc] at this
    · refine ⟨hown2.1, ?_⟩
      rcases hown2.2 with hn | ⟨g, cap, cur, hv, hbb, hgg, rest⟩
      · exact .inl hn
      · exact .inr ⟨g, cap, cur, hv, hbb, (hkeep2 g (lt_of_heap hgg)).trans hgg, rest⟩
    · exact ⟨hg3.os.trans hg2.os, hg3.tape.trans hg2.tape, hg3.output.trans hg2.output, by omega, fun i hi => (hkeep i (by simp; omega)).trans (Below.heap_alloc w _ i hi)⟩
  have HST := Lib.hid hst
  clear hst hkeep hkeep2 hown2 hg2 hown3 hg3 HCU hc3'
  generalize w2.heap.size = Bo at *
  go_wp2_with fail
  go_loopw [9, 10, 35] (fun v a i wr => ∃ (k x c' : Nat) (C : List UInt8) (A' : Option Addr) (dn : List Ed), k ≤ len ∧ i = .int .i64 k ∧ a = .int .i64 x ∧ v = .slice A' k c' ∧ x ≤ z ∧ Hid (rightB x z (l.drop k) = true) ∧ Hid (C ++ appl T x (l.drop k) = appl T 0 l) ∧ Hid (dn ++ turn T ((C.length : Int) - x) (l.drop k) = turn T 0 l) ∧ Hid (dn.length = k) ∧ Hid (SwL w Bo (Bo + 1) G L T C x (.slice A' k c') k dn wr)) (fun _ _ i _ => len - (intOf i).toNat)
  case atStart => exact ⟨0, 0, _, [], _, [], Nat.zero_le _, rfl, rfl, rfl, Nat.zero_le _, HR.out, rfl, rfl, rfl, HST.out⟩
  case round =>
    clear HST
    obtain ⟨k, x, c', C, A', dn, hk, rfl, rfl, rfl, hx, HRk, HP, HDN, HDl, HSr⟩ := hrel
    have hCl : C.length ≤ 1048576 := by
      have h1 := HA.out; have h2 := congrArg List.length HP.out; rw [List.length_append] at h2; omega
    by_cases hlt : k < len
    · obtain ⟨e, he⟩ := get_some l k (by rw [HL.out]; exact hlt)
      have HD := Lib.hid (drop_cons_of he)
      have hr1 := HRk.out
      rw [HD.out, rightB_cons, Bool.and_eq_true, Ed.okB_iff] at hr1
      obtain ⟨⟨q1, q2, q3⟩, q4⟩ := hr1
      have HQ := Lib.hid q4; clear q4
      have hCe : C.length + (e.f.toNat - x) + e.s.size ≤ 1048576 := by
        have h1 := HA.out
        have h2 := congrArg List.length HP.out
        rw [HD.out, appl_cons] at h2
        have h3 : e.bs.length = e.s.size := Array.length_toList
        simp only [List.length_append, List.length_take, List.length_drop] at h2
        have := HZ.out
        omega
      obtain ⟨ad, rfl, hab, c0, c1, c2⟩ := (hE.below HSr.out.bel) k e he
      clear he
      have HS1 := Lib.hid (HSr.out.alloc (.cells #[.int .i64 e.f, .int .i64 e.t, .string e.s] 35))
      have HC0 := Lib.hid (heap_alloc_new wr (.cells #[.int .i64 e.f, .int .i64 e.t, .string e.s] 35))
      obtain ⟨l1, l2, l3⟩ : Bo < wr.heap.size ∧ Bo + 1 < wr.heap.size ∧ w.heap.size + 1 ≤ wr.heap.size := ⟨HSr.out.ob, HSr.out.zb, HSr.out.sz⟩
      obtain ⟨m0, hm0⟩ : ∃ m0 : Nat, (m0 : Int) = e.f - x := ⟨(e.f - x).toNat, by omega⟩
      obtain ⟨m1, hm1⟩ : ∃ m1 : Nat, (m1 : Int) = e.t - e.f := ⟨(e.t - e.f).toNat, by omega⟩
      have p1 : IntKind.i64.wrap (e.f - (x : Int)) = (m0 : Int) := by rw [hm0]; exact IntWalk.i64_in _ (by omega)
      have p2 : IntKind.i64.wrap (e.t - e.f) = (m1 : Int) := by rw [hm1]; exact IntWalk.i64_in _ (by omega)
      have HM0 := Lib.hid hm0; have HM1 := Lib.hid hm1
      clear hm0 hm1
      have HP2 := Lib.hid p2; clear p2
      go_wp2_with fail
      clear p1
      have hRl : (T.drop x).length = z - x := by rw [List.length_drop, ← HZ.out]
      refine (sw_cut (w.heap.size + 1) w.heap.size Bo (Bo + 1) G L (T.drop x) C m0 _ HS1.out.put HS1.out.cut (by omega) (by omega) (by omega) (by simp; omega) hG HLG.out (by rw [hRl]; have := HM0.out; omega) (by have := HM0.out; omega)).mono ?_
      rintro x1 w7 ⟨rfl, hp7, hc7, hk7⟩
      have HS7 := Lib.hid (HS1.out.step hp7 (x' := x + m0) (by rw [← List.drop_drop]; exact hc7) hk7)
      have hbx7 := hk7.heap HC0.out (by decide) (by omega) (by omega) (by omega)
      have HB7 := Lib.hid hbx7
      have d2 := cell2_of hbx7
      have dz := hp7.o.2.cell
      obtain ⟨z7, hz7⟩ : ∃ z7, z7 = (C ++ (T.drop x).take m0).length := ⟨_, rfl⟩
      rw [← hz7] at dz
      have hz7' : z7 = C.length + m0 := by rw [hz7, List.length_append, List.length_take, hRl]; have := HM0.out; omega
      have HZ7 := Lib.hid hz7; clear hz7
      have HZ7' := Lib.hid hz7'; clear hz7'
      have hsz7 : wr.heap.size + 1 ≤ w7.heap.size := by have := hk7.size; simp at this; omega
      clear hp7 hc7 hk7 hbx7 HS1 HC0
      obtain ⟨cp, hcp⟩ : ∃ cp, cp = grownCap w7 e.s.size 0 5 := ⟨_, rfl⟩
      have hconv : (convert 9 64 (.string e.s)).run Try.prog w7 = .ok (.slice (some ⟨w7.heap.size, 0, none⟩) e.s.size cp) (w7.drew.alloc (.cells (bytesRow e.s cp) 5 ((bytesRow e.s cp).size, (bytesRow e.s cp).size + 1))) := by
        rw [hcp]; exact run_bytes_of_string w7 9 64 5 e.s Try.underlying9 Try.underlying64 Try.underlying5
      have hc1 : e.s.size ≤ cp := by rw [hcp]; exact grownCap_ge _ _ _ _
      have hc2 : cp ≤ 9223372036854775807 := by rw [hcp]; have := grownCap_le_maxLen w7 e.s.size 0 5 (by unfold maxLen; omega); unfold maxLen at this; omega
      clear hcp
      have HPN := Lib.hid (pcAt_new w7 e.s cp hc1)
      have HCR := Lib.hid hc1
      obtain ⟨CR, hCR⟩ : ∃ CR, CR = bytesRow e.s cp := ⟨_, rfl⟩
      rw [← hCR] at hconv HPN
      clear hCR
      go_wp2_with fail
      have hb7 : Below w7.heap.size w7 (w7.drew.alloc (.cells CR 5 (CR.size, CR.size + 1))) := (Below.refl _ w7).drew.alloc (Nat.le_refl _) _
      have HS7b := Lib.hid (HS7.out.below hb7)
      have HB7b := Lib.hid ((hb7.block _ (lt_of_heap HB7.out)).trans HB7.out)
      have hml : (T.drop x).take m0 = (T.drop x).take (e.f.toNat - x) := by rw [show m0 = e.f.toNat - x by have := HM0.out; omega]
      refine (put_hand (w.heap.size + 1) w.heap.size Bo (Bo + 1) (C ++ (T.drop x).take m0) w7.heap.size 0 e.s.data.toList e.s.size cp _ HS7b.out.put HPN.out (Lib.size_eq e.s).symm (by omega) (by simp; omega) hc1 hc2 (by rw [← HZ7.out, HZ7'.out]; have := HM0.out; omega) (by omega) (by omega) (by omega)).mono ?_
      rintro x1 w8 ⟨rfl, hp8, hk8, hj8⟩
      have hs8 := HS7b.out.step hp8 (HS7b.out.cut.kc hk8 hj8 (by omega) (by omega) (by omega) hG HLG.out) hk8
      have HS8 := Lib.hid hs8
      have hbx8 := hk8.heap HB7b.out (by decide) (by omega) (by omega) (by omega)
      have HB8 := Lib.hid hbx8
      have d0 := cell0_of hbx8
      have d1 := cell1_of hbx8
      have dz8 := hp8.o.2.cell
      obtain ⟨z8, hz8⟩ : ∃ z8, z8 = (C ++ (T.drop x).take m0 ++ e.s.data.toList).length := ⟨_, rfl⟩
      rw [← hz8] at dz8
      have HZ8 := Lib.hid hz8
      have HZ8' := Lib.hid (show z8 = z7 + e.s.size by rw [hz8, List.length_append, ← HZ7.out, ← Lib.size_eq])
      have hsz8 : w7.heap.size + 1 ≤ w8.heap.size := by have := hk8.size; simp at this; omega
      clear hz8 hp8 hk8 hj8 hs8 hbx8 HS7b HB7b HPN hconv d2 dz
      clear hb7
      have p2 := HP2.out
      have hRl2 : (T.drop (x + m0)).length = z - x - m0 := by rw [List.length_drop, ← HZ.out]; omega
      have HRL2 := Lib.hid hRl2; clear hRl2
      have HRL := Lib.hid hRl; clear hRl
      have HML := Lib.hid hml; clear hml
      have hne1 := Lib.hid (show some wr.heap.size ≠ (Value.slice A' k c').ownBlock from fun h => by have := (HSr.out.own.lt _ h.symm).2; omega)
      have hne2 := Lib.hid (show some (Bo + 1) ≠ (Value.slice A' k c').ownBlock from own_ne1 HSr.out.own HSr.out.put.o.2 (by decide))
      go_wp2_with fail
      go_region_held3 (fun w' => w'.cell? ⟨wr.heap.size, 0, none⟩ = some (.int .i64 e.f) ∧ w'.cell? ⟨wr.heap.size, 1, none⟩ = some (.int .i64 e.t) ∧ w'.cell? ⟨Bo + 1, 0, none⟩ = some (.int .i64 z8))
        (first
          | go_keep
          | exact hh9
          | exact hh10)
        (first
          | (go_at_call 62; refine (sw_gather (w.heap.size + 1) w.heap.size Bo (Bo + 1) G L (T.drop (x + m0)) _ m1 (w8.drew) (HS8.out.below (Below.refl _ w8).drew).put (HS8.out.below (Below.refl _ w8).drew).cut (by omega) (by omega) (by omega) hG (by rw [HRL2.out]; have := HM0.out; have := HM1.out; omega) (by have := HM1.out; omega)).mono ?_; rintro e' w9 ⟨rfl, hp9, hc9, hk9⟩; have hh9 : w9.cell? ⟨wr.heap.size, 0, none⟩ = some (.int .i64 e.f) ∧ w9.cell? ⟨wr.heap.size, 1, none⟩ = some (.int .i64 e.t) ∧ w9.cell? ⟨Bo + 1, 0, none⟩ = some (.int .i64 z8) := ⟨cell0_of (hk9.heap HB8.out (by decide) (by omega) (by omega) (by omega)), cell1_of (hk9.heap HB8.out (by decide) (by omega) (by omega) (by omega)), by rw [HZ8.out]; exact hp9.o.2.cell⟩)
          | (refine step_append_lies _ (by rfl) _ _ _ (by rfl) w.heap.size 35 i1 _ 3 32 Try.underlying22 HI'.out HZ0'.out HZ1'.out HZ2'.out rfl (by omega) (.slice A' k c') k (edCells dn) (by rfl) (((HS8.out.below (Below.refl _ w8).drew).step hp9 (x' := x + m0 + m1) (by rw [← List.drop_drop]; exact hc9) hk9).own.alloc _) ⟨w9.heap.size, 0, none⟩ 1 1 [.int .i64 z7, .int .i64 z8, .string ⟨((T.drop (x + m0)).take m1).toArray⟩] (by rfl) (by rfl) (World.news_of_block (cs := #[.int .i64 z7, .int .i64 z8, .string ⟨((T.drop (x + m0)).take m1).toArray⟩]) (t := 35) (fr := (0, 0)) (heap_alloc_new w9 _)) (by simp [Value.oneCell']) (by omega) (by unfold maxLen; omega) (by omega) (by have := hk9.size; simp at this ⊢; omega) (w9.heap.size + 1) (by simp) ?_; intro gg cap6 w6 hown6 hgrow6 hat6 hlt6; have hh10 : w6.cell? ⟨wr.heap.size, 0, none⟩ = some (.int .i64 e.f) ∧ w6.cell? ⟨wr.heap.size, 1, none⟩ = some (.int .i64 e.t) ∧ w6.cell? ⟨Bo + 1, 0, none⟩ = some (.int .i64 z8) := held_grown hh9.1 hh9.2.1 hh9.2.2 hgrow6 hne1.out hne2.out (by have := hk9.size; simp at this; omega) (by have := hk9.size; simp at this; omega)))
      obtain ⟨k0, k1, k2⟩ := hh10
      have HS9 := Lib.hid (((HS8.out.below (Below.refl _ w8).drew).step hp9 (x' := x + m0 + m1) (by rw [← List.drop_drop]; exact hc9) hk9).push (e := ⟨z7, z8, ⟨((T.drop (x + m0)).take m1).toArray⟩⟩) hown6 hgrow6)
      clear hh9 hp9 hc9 hk9 hown6 hgrow6 hat6 hlt6 d0 d1 dz8 HS8 HB8 k0 k2 p2
      go_wp2
      go_roundw
      case rel =>
        have hm0 := HM0.out
        have hm1 := HM1.out
        have hz7 := HZ7'.out
        have hz8 := HZ8'.out
        have hxt : x + m0 + m1 = e.t.toNat := by omega
        have hlen2 : (C ++ (T.drop x).take m0 ++ e.s.data.toList).length = z8 := HZ8.out.symm
        refine ⟨k + 1, e.t.toNat, cap6, C ++ (T.drop x).take m0 ++ e.s.data.toList, some ⟨gg, 0, none⟩, dn ++ [⟨z7, z8, ⟨((T.drop (x + m0)).take m1).toArray⟩⟩], by omega, by go_num, by rw [Int.toNat_of_nonneg (by omega)], rfl, by omega, ?_, ?_, ?_, ?_, ?_⟩
        · show rightB _ _ _ = true
          rw [Int.toNat_of_nonneg (by omega)]; exact HQ.out
        · show _ = _
          rw [← HP.out, HD.out, appl_cons, HML.out]; simp only [List.append_assoc]; rfl
        · show _ = _
          rw [← HDN.out, HD.out, turn, hlen2, List.append_assoc]
          have e1 : e.f + ((C.length : Int) - x) = (z7 : Int) := by omega
          have e2 : e.f + ((C.length : Int) - x) + (e.s.size : Int) = (z8 : Int) := by omega
          have e3 : (z8 : Int) - (e.t.toNat : Int) = (C.length : Int) - x + e.gr := by unfold Ed.gr; omega
          have e4 : e.f.toNat = x + m0 := by omega
          have e5 : e.t.toNat - e.f.toNat = m1 := by omega
          rw [e2, e1, e3, e5, e4]
          rfl
        · show (_ : Nat) = _
          rw [List.length_append, HDl.out]; rfl
        · have h9 := HS9.out
          rw [hxt] at h9
          exact h9
      case measure => simp [intOf]; omega
    · have hkl : k = len := by omega
      have hdr : l.drop k = [] := List.drop_of_length_le (by rw [HL.out]; omega)
      have HF := Lib.hid (show C ++ (T.drop x).take (z - x) = appl T 0 l by
        rw [← HP.out, hdr, appl, List.take_of_length_le (by rw [List.length_drop, ← HZ.out]; omega)])
      have HF2 := Lib.hid (show dn = turn T 0 l by rw [← HDN.out, hdr, turn, List.append_nil])
      clear hdr
      have hbfr : BfAt wr Bf p f made (.slice A n c) z := (HSr.out.bel.block _ hBl).trans (by have := HH.out.bf; rw [← HZ.out] at this; exact this)
      have d4 := hbfr.c4
      obtain ⟨m0, hm0⟩ : ∃ m0 : Nat, (m0 : Int) = (z : Int) - x := ⟨z - x, by omega⟩
      have p1 : IntKind.i64.wrap ((z : Int) - (x : Int)) = (m0 : Int) := by rw [hm0]; exact IntWalk.i64_in _ (by omega)
      have hmz : m0 = z - x := by omega
      have HM0 := Lib.hid hmz
      clear hm0 hmz hbfr
      have HKL := Lib.hid hkl; clear hkl
      go_wp2_with fail
      clear p1 d4
      have hRl : (T.drop x).length = z - x := by rw [List.length_drop, ← HZ.out]
      refine (sw_cut (w.heap.size + 1) w.heap.size Bo (Bo + 1) G L (T.drop x) C m0 _ HSr.out.put HSr.out.cut (by omega) (by omega) (by omega) HSr.out.sz hG HLG.out (by rw [hRl, HM0.out]; omega) (by have h1 := HA.out; rw [← HF.out, List.length_append, List.length_take, hRl] at h1; rw [HM0.out]; omega)).mono ?_
      rintro x1 w7 ⟨rfl, hp7, hc7, hk7⟩
      have HS7 := Lib.hid (HSr.out.step hp7 (x' := x + m0) (by rw [← List.drop_drop]; exact hc7) hk7)
      clear hp7 hc7 hk7
      have hbf7 : BfAt w7 Bf p f made (.slice A n c) z := (HS7.out.bel.block _ hBl).trans (by have := HH.out.bf; rw [← HZ.out] at this; exact this)
      obtain ⟨Ao, no, co, Lp, hs7, hln7, hpc7, htx7⟩ := HS7.out.put
      have hx7 : C ++ (T.drop x).take m0 = appl T 0 l := by rw [HM0.out]; exact HF.out
      rw [hx7] at hs7 htx7
      have do_ := hs7.ho.cell
      have dz := hs7.hz.cell
      obtain ⟨z8, hz8⟩ : ∃ z8, z8 = (appl T 0 l).length := ⟨_, rfl⟩
      rw [← hz8] at dz
      have f3 := hbf7.fz 3
      have f4 := hbf7.fz 4
      have e3 := hbf7.c3
      have e4 := hbf7.c4
      have HSS := Lib.hid hs7; have HLN := Lib.hid hln7; have HPC := Lib.hid hpc7; have HTX := Lib.hid htx7; have HBF := Lib.hid hbf7; have HZ8 := Lib.hid hz8
      clear hs7 hln7 hpc7 htx7 hbf7 hz8 hx7
      have n1 : Bf ≠ Bo := by omega
      have n2 : Bf ≠ Bo + 1 := by omega
      go_wp2_with fail
      go_region
      go_wp2
      refine bodyPost_ret (v := .slice A' k c') (by simp [results, Try.results57, go_sem]) rfl ?_
      have hkb : Kb (fun i => i = Bf) w7 ((w7.setCell ⟨Bf, 3, none⟩ (.slice Ao no co)).setCell ⟨Bf, 4, none⟩ (.int .i64 z8)).drew := by
        have := (Kb.setCell w7 ⟨Bf, 3, none⟩ (.slice Ao no co)).trans (Kb.setCell _ ⟨Bf, 4, none⟩ (.int .i64 z8)) (fun i _ h => h)
        exact ⟨this.os, this.tape, this.output, this.size, this.block⟩
      have hkw : Kb (fun i => i = Bf) w w7 := ⟨HS7.out.bel.os, HS7.out.bel.tape, HS7.out.bel.output, HS7.out.bel.size, fun i hi _ => HS7.out.bel.block i hi⟩
      have hbf : BfAt ((w7.setCell ⟨Bf, 3, none⟩ (.slice Ao no co)).setCell ⟨Bf, 4, none⟩ (.int .i64 z8)).drew Bf p f made (.slice Ao no co) z8 := (HBF.out.s3 (.slice Ao no co)).s4 z8
      have hol := own_ne_bf HSS.out.own HBF.out (by decide)
      have hob := own_ne_bf HS7.out.own HBF.out (by decide)
      have hll : l.length = k := by rw [HL.out, HKL.out]
      unfold SwapBack
      rw [hll]
      refine ⟨A', c', Ao, co, Lp, rfl, ⟨?_, ?_, rfl, fun q hq => ?_, HTX.out, ?_⟩, ?_, hkw.trans hkb (fun i _ h => h)⟩
      · rw [← HZ8.out, HLN.out]; exact hbf
      · rw [HLN.out]
        exact own_kb (own_more HSS.out.own (by omega)) hkb (fun g hg he => hol (by rw [hg, ← he]))
      · have hq' := HPC.out q hq
        refine ⟨hq'.1.keep (hkb.block _ (pc_lt hq'.1) ?_), hq'.2.1, hq'.2.2.1⟩
        intro he
        obtain ⟨cur, fz, hg, _⟩ := hq'.1
        have hb := HBF.out
        unfold BfAt at hb
        rw [← he, hg] at hb
        injection hb with hb
        injection hb with _ h2
        exact absurd h2 (by decide)
      · have := HA.out; omega
      · rw [← HF2.out]
        exact own_kb HS7.out.own hkb (fun g hg he => hob (by rw [hg, ← he]))
end Go.Proofs.Ytpifobaejmfppaa
