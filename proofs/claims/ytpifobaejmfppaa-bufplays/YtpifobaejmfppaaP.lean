/- The parts of edits.Compose: what its closures do. -/
import Derived.Test.YtpifobaejmfppaaM
import Derived.Deep.RegionWith
import Derived.Deep.DeepCutAuto
namespace Go.Proofs.Ytpifobaejmfppaa
open Go.RowKit

/-- A block of one cell. -/
def One (w : World) (b : Nat) (t : TypeId) (v : Value) : Prop := w.heap[b]? = some (.cells #[v] t (0, 0))
theorem One.cell {w : World} {b t : Nat} {v : Value} (h : One w b t v) : w.cell? ⟨b, 0, none⟩ = some v := by rw [Lib.cell_of_heap h]; rfl
theorem One.frozen {w : World} {b t : Nat} {v : Value} (h : One w b t v) : w.frozen? ⟨b, 0, none⟩ = false := Lib.frozen_of_heap h 0
theorem One.lt {w : World} {b t : Nat} {v : Value} (h : One w b t v) : b < w.heap.size := by
  rcases Nat.lt_or_ge b w.heap.size with h' | h'
  · exact h'
  · unfold One at h; simp [Array.getElem?_eq_none h'] at h
theorem One.set {w : World} {b t : Nat} {v : Value} (h : One w b t v) (x : Value) : One (w.setCell ⟨b, 0, none⟩ x) b t x := by
  unfold One at h ⊢
  simp [World.setCell, Array.getElem?_modify, h]
theorem One.ne {w : World} {b b' t t' : Nat} {v v' : Value} (h : One w b t v) (h' : One w b' t' v') (ht : t ≠ t') : b ≠ b' := by
  rintro rfl
  unfold One at h h'
  rw [h] at h'
  injection h' with h'
  injection h' with _ h2
  exact ht h2

/-- What is not among these blocks, is not this row, and is no row of bytes, stands as it stood. -/
def Kp (ex : List Nat) (row : Option Nat) (w w' : World) : Prop :=
  w.heap.size ≤ w'.heap.size ∧ ∀ k o, w.heap[k]? = some o → k ∉ ex → some k ≠ row → (∀ c fz, o ≠ .cells c 5 fz) → w'.heap[k]? = some o

theorem Kp.refl (ex : List Nat) (row : Option Nat) (w : World) : Kp ex row w w := ⟨Nat.le_refl _, fun _ _ h _ _ _ => h⟩
/-- The row that comes behind: the same, or a new one. -/
def RowNext (w : World) (row row' : Option Nat) : Prop := row' = row ∨ ∃ g, row' = some g ∧ w.heap.size ≤ g
theorem RowNext.refl (w : World) (row : Option Nat) : RowNext w row row := .inl rfl
theorem lt_of_heap {w : World} {k : Nat} {o : Obj} (h : w.heap[k]? = some o) : k < w.heap.size := by
  rcases Nat.lt_or_ge k w.heap.size with h' | h'
  · exact h'
  · simp [Array.getElem?_eq_none h'] at h
theorem Kp.trans {ex : List Nat} {row row1 : Option Nat} {w w1 w2 : World} (h : Kp ex row w w1) (k : Kp ex row1 w1 w2) (hr : RowNext w row row1) : Kp ex row w w2 :=
  ⟨Nat.le_trans h.1 k.1, fun i o hi hx hn ho => k.2 i o (h.2 i o hi hx hn ho) hx (by
    rcases hr with hr | ⟨g, hr, hg⟩
    · rw [hr]; exact hn
    · rw [hr]; intro e; have := lt_of_heap hi; have : i = g := Option.some.inj e; omega) ho⟩
theorem RowNext.trans {w w1 : World} {r r1 r2 : Option Nat} (h : RowNext w r r1) (k : RowNext w1 r1 r2) (hs : w.heap.size ≤ w1.heap.size) : RowNext w r r2 := by
  rcases k with k | ⟨g, k, hg⟩
  · rw [RowNext, k]; exact h
  · exact .inr ⟨g, k, by omega⟩
theorem Kp.more {ex ex' : List Nat} {row : Option Nat} {w w' : World} (h : Kp ex row w w') (hs : ∀ x ∈ ex, x ∈ ex') : Kp ex' row w w' :=
  ⟨h.1, fun k o hk hx hn ho => h.2 k o hk (fun hm => hx (hs k hm)) hn ho⟩
theorem Kp.alloc {ex : List Nat} {row : Option Nat} {w w' : World} (h : Kp ex row w w') (o : Obj) : Kp ex row w (w'.alloc o) :=
  ⟨Nat.le_trans h.1 (by simp), fun k x hk hx hn ho => by
    have h1 := h.2 k x hk hx hn ho
    exact (Below.heap_alloc w' o k (lt_of_heap h1)).trans h1⟩
theorem Kp.drew {ex : List Nat} {row : Option Nat} {w w' : World} (h : Kp ex row w w') : Kp ex row w w'.drew := h
theorem Kp.drewN {ex : List Nat} {row : Option Nat} {w w' : World} (h : Kp ex row w w') (n : Nat) : Kp ex row w (w'.drewN n) := h
theorem Kp.setCell {ex : List Nat} {row : Option Nat} {w w' : World} (h : Kp ex row w w') {p : Addr} (hp : p.block ∈ ex ∨ w.heap.size ≤ p.block) (u : Value) : Kp ex row w (w'.setCell p u) :=
  ⟨by simpa [World.setCell] using h.1, fun k x hk hx hn ho => by
    have h1 := h.2 k x hk hx hn ho
    refine (Below.heap_setCell w' p u k ?_).trans h1
    rintro rfl
    rcases hp with hp | hp
    · exact hx hp
    · have := lt_of_heap hk; omega⟩
theorem Kp.of_others {w w' : World} {b : Nat} (h : Lib.OthersKept 5 (some b) w w') (hs : w.heap.size ≤ w'.heap.size) (row : Option Nat) : Kp [b] row w w' :=
  ⟨hs, fun k o hk hx _ ho => h k o hk (fun e => hx (by simp [Option.some.inj e])) ho⟩
theorem Kp.of_grown {w w' : World} {row : Option Nat} (h : w.grownBy w' row) : Kp [] row w w' :=
  ⟨h.size, fun k _ hk _ hn _ => (h.block k (lt_of_heap hk) hn).trans hk⟩
theorem Kp.of_below {w w' : World} (h : Below w.heap.size w w') (row : Option Nat) : Kp [] row w w' :=
  ⟨h.size, fun k _ hk _ _ _ => (h.block k (lt_of_heap hk)).trans hk⟩
theorem Kp.one {ex : List Nat} {row : Option Nat} {w w' : World} (h : Kp ex row w w') {b t : Nat} {v : Value} (hb : One w b t v) (hx : b ∉ ex) (hn : some b ≠ row) (ht : t ≠ 5) : One w' b t v :=
  h.2 b _ hb hx hn (fun c fz e => by injection e with _ e2; exact ht e2)
/-- A block that is no row of edits is not a row that is owned. -/
theorem own_ne {w : World} {base n b t : Nat} {v u : Value} {xs : List Value} (h : w.ownsRow base 35 3 v n xs) (hb : One w b t u) (ht : t ≠ 35) : some b ≠ v.ownBlock := by
  rcases h.2 with ⟨rfl, _⟩ | ⟨g, cap, cur, rfl, _, hg, _⟩
  · simp [Value.ownBlock]
  · intro e
    have : b = g := by simpa [Value.ownBlock] using e
    subst this
    unfold One at hb
    rw [hg] at hb
    injection hb with hb
    injection hb with _ h2
    exact ht h2.symm
theorem own_ne_two {w : World} {base n b' : Nat} {v p q : Value} {xs : List Value} (h : w.ownsRow base 35 3 v n xs) (hb : w.heap[b']? = some (.cells #[p, q] 70 (0, 0))) : ∀ g, v.ownBlock = some g → g ≠ b' := by
  rintro g hg rfl
  rcases h.2 with ⟨rfl, _⟩ | ⟨g', cap, cur, rfl, _, hg', _⟩
  · simp [Value.ownBlock] at hg
  · have : g' = g := by simpa [Value.ownBlock] using hg
    subst this
    rw [hg'] at hb
    injection hb with hb
    injection hb with _ h2
    exact absurd h2 (by decide)
theorem own_kp {ex : List Nat} {row : Option Nat} {w w' : World} {base n : Nat} {v : Value} {xs : List Value} (h : w.ownsRow base 35 3 v n xs) (hk : Kp ex row w w') (hx : ∀ g, v.ownBlock = some g → g ∉ ex ∧ some g ≠ row) : w'.ownsRow base 35 3 v n xs := by
  refine ⟨h.1, ?_⟩
  rcases h.2 with hn | ⟨g, cap, cur, rfl, hb, hgg, rest⟩
  · exact .inl hn
  · have := hx g rfl
    exact .inr ⟨g, cap, cur, rfl, hb, hk.2 g _ hgg this.1 this.2 (fun c fz e => by injection e with _ e2; exact absurd e2 (by decide)), rest⟩

theorem isb_block {base b : Nat} {bs : List Value} {w : World} (h : Lib.IsBuilderF 70 5 base b bs w) : ∃ p v, w.heap[b]? = some (.cells #[p, v] 70 (0, 0)) ∧ base ≤ b := by
  rcases h with ⟨hB, v, hbk, _⟩ | ⟨hB, v, hbk, _⟩ <;> exact ⟨_, v, hbk, hB⟩

theorem one_ne_two {w : World} {b b' t : Nat} {v p q : Value} (h : One w b t v) (h' : w.heap[b']? = some (.cells #[p, q] 70 (0, 0))) : b ≠ b' := by
  rintro rfl
  unfold One at h
  rw [h] at h'
  injection h' with h'
  injection h' with h1 _
  have := congrArg Array.size h1
  simp at this

set_option maxHeartbeats 400000 in
theorem reset_any (base b : Nat) (p v : Value) (w : World) (hB : base ≤ b) (hbk : w.heap[b]? = some (.cells #[p, v] 70 (0, 0))) :
    Calls Try.prog 48 #[.pointer (some ⟨b, 0, none⟩)] w fun e w' => e = .returned (.tuple #[]) ∧ Lib.IsBuilderF 70 5 base b (Lib.byteCells []) w' ∧ Below base w w' ∧ Kp [b] none w w' := by
  have c0 : w.cell? ⟨b, 0, none⟩ = some p := by rw [Lib.cell_of_heap hbk]; rfl
  have c1 : w.cell? ⟨b, 1, none⟩ = some v := by rw [Lib.cell_of_heap hbk]; rfl
  have f0 : w.frozen? ⟨b, 0, none⟩ = false := Lib.frozen_of_heap hbk 0
  have f1 : w.frozen? ⟨b, 1, none⟩ = false := Lib.frozen_of_heap hbk 1
  have HBK := Lib.hid hbk
  clear hbk
  go_enter Try.func48, Try.ntmps48
  go_wp2
  go_end0
  have hb2 : ((w.setCell ⟨b, 0, none⟩ (.pointer none)).setCell ⟨b, 1, none⟩ (.slice none 0 0)).heap[b]? = some (.cells #[.pointer none, .slice none 0 0] 70 (0, 0)) := by
    have := HBK.out
    simp [World.setCell, Array.getElem?_modify, this]
  refine ⟨rfl, Lib.IsBuilderF.of (.inl ⟨hB, _, hb2, World.ownsRow_nil _ _ _ _, by simp [Value.ownBlock]⟩), ((Below.refl _ _).setCell (p := ⟨b, 0, none⟩) hB _).setCell (p := ⟨b, 1, none⟩) hB _, ((Kp.refl _ _ _).setCell (p := ⟨b, 0, none⟩) (.inl (by simp)) _).setCell (p := ⟨b, 1, none⟩) (.inl (by simp)) _⟩

/-- The variables of Compose, as they lie: the text, what is put down, what is gathered, where the last kept run ended. -/
structure CSt (base Bs Bo Bw Bk : Nat) (s : ByteArray) (out : List Ed) (n : Nat) (wi : List UInt8) (kept : Int) (A : Option Addr) (c : Nat) (w : World) : Prop where
  hs : One w Bs 9 (.string s)
  ho : One w Bo 22 (.slice A n c)
  hk : One w Bk 3 (.int .i64 kept)
  hw : Lib.IsBuilderF 70 5 base Bw (Lib.byteCells wi) w
  own : w.ownsRow base 35 3 (.slice A n c) n (edCells out)
  hn : out.length = n
  b1 : base ≤ Bo
  b2 : base ≤ Bk
  b3 : base ≤ w.heap.size

/-- What putDown leaves. -/
def PutBack (base Bs Bo Bw Bk : Nat) (s : ByteArray) (out : List Ed) (wi : List UInt8) (kept : Int) (row : Option Nat) (w : World) (e : Ending) (w' : World) : Prop :=
  ∃ n A c, e = .returned (.tuple #[]) ∧ CSt base Bs Bo Bw Bk s out n wi kept A c w' ∧ Below base w w' ∧ Kp [Bo, Bw] row w w' ∧ RowNext w row (Value.slice A n c).ownBlock

/-- What stands behind putDown's first statement. -/
def PD1 (base Bs Bo Bw Bk : Nat) (s : ByteArray) (out ln : List Ed) (n : Nat) (kept : Int) (row : Option Nat) (w wx : World) : Prop :=
  ∃ m A c, m = n + ln.length ∧ One wx Bo 22 (.slice A m c) ∧ One wx Bs 9 (.string s) ∧ One wx Bk 3 (.int .i64 kept) ∧ (∃ p v, wx.heap[Bw]? = some (.cells #[p, v] 70 (0, 0))) ∧
    wx.ownsRow base 35 3 (.slice A m c) m (edCells (out ++ ln)) ∧ Below base w wx ∧ Kp [Bo, Bw] row w wx ∧ RowNext w row (Value.slice A m c).ownBlock

theorem pd1_close {base Bs Bo Bw Bk : Nat} {s : ByteArray} {out ln : List Ed} {n : Nat} {kept : Int} {row : Option Nat} {w w2 w3 : World} {A3 : Option Addr} {c3 : Nat} {u : Value} (hb2 : Below base w w2) (kp2 : Kp [Bw] row w w2) (hg3 : w2.grownBy w3 row)
    (ho3 : w3.ownsRow base 35 3 (.slice A3 (n + ln.length) c3) (n + ln.length) (edCells out ++ edCells ln)) (o3 : One w3 Bo 22 u) (s3 : One w3 Bs 9 (.string s)) (k3 : One w3 Bk 3 (.int .i64 kept)) (hblk : ∃ p v, w2.heap[Bw]? = some (.cells #[p, v] 70 (0, 0)))
    (hr3 : (Value.slice A3 (n + ln.length) c3).ownBlock = row ∨ ∃ g, (Value.slice A3 (n + ln.length) c3).ownBlock = some g ∧ w2.heap.size ≤ g) (hB : base ≤ Bo) (hne : Bo ≠ Bw) (hnr : some Bw ≠ row) (hrb : ∀ g, row = some g → base ≤ g) (hbs : base ≤ w.heap.size) :
    PD1 base Bs Bo Bw Bk s out ln n kept row w (w3.setCell ⟨Bo, 0, none⟩ (.slice A3 (n + ln.length) c3)) := by
  obtain ⟨p, v, hp⟩ := hblk
  have kp3 := Kp.of_grown hg3
  have k1 : Kp [Bo, Bw] row w w3 := (kp2.more (by simp)).trans (kp3.more (by simp)) (.inl rfl)
  have kset : Kp [Bo] none w3 (w3.setCell ⟨Bo, 0, none⟩ (.slice A3 (n + ln.length) c3)) := (Kp.refl _ _ _).setCell (p := ⟨Bo, 0, none⟩) (.inl (by simp)) _
  have hno := own_ne ho3 o3 (by decide)
  refine ⟨_, A3, c3, rfl, o3.set _, kset.one s3 (by simpa using s3.ne o3 (by decide)) (by simp) (by decide), kset.one k3 (by simpa using k3.ne o3 (by decide)) (by simp) (by decide), ⟨p, v, ?_⟩, ?_, ?_, k1.setCell (p := ⟨Bo, 0, none⟩) (.inl (by simp)) _, ?_⟩
  · exact (Below.heap_setCell w3 ⟨Bo, 0, none⟩ _ Bw (Ne.symm hne)).trans ((hg3.block Bw (lt_of_heap hp) hnr).trans hp)
  · rw [edCells_append]
    exact own_kp ho3 kset (fun g hg => ⟨by rintro hm; simp at hm; subst hm; exact hno hg.symm, by simp⟩)
  · exact (hb2.grown hg3 (Nat.le_trans hbs kp2.1) hrb).setCell (p := ⟨Bo, 0, none⟩) hB _
  · rcases hr3 with h | ⟨g, h, hg⟩
    · exact .inl h
    · exact .inr ⟨g, h, Nat.le_trans kp2.1 hg⟩

set_option maxRecDepth 100000 in
set_option maxHeartbeats 2000000 in
theorem putDown_any (base Bs Bo Bw Bk : Nat) (s : ByteArray) (out : List Ed) (n : Nat) (wi : List UInt8) (kept tt : Int) (A : Option Addr) (c : Nat) (w : World) (h : CSt base Bs Bo Bw Bk s out n wi kept A c w)
    (h1 : 0 ≤ kept) (h2 : kept ≤ tt) (h3 : tt ≤ s.size) (h4 : s.size ≤ 1099511627776) (h5 : wi.length ≤ 1099511627776) (h6 : n ≤ 1048576) :
    Calls Try.prog 47 #[.int .i64 tt, .pointer (some ⟨Bo, 0, none⟩), .pointer (some ⟨Bs, 0, none⟩), .pointer (some ⟨Bk, 0, none⟩), .pointer (some ⟨Bw, 0, none⟩)] w
      (PutBack base Bs Bo Bw Bk s (out ++ leanOf s.data.toList ⟨kept, tt, ⟨wi.toArray⟩⟩) [] kept (Value.slice A n c).ownBlock w) := by
  have H := Lib.hid h
  have co := h.ho.cell
  have cs := h.hs.cell
  have ck := h.hk.cell
  have fo := h.ho.frozen
  have hbw := h.b3
  obtain ⟨p0, v0, hblk, hbB⟩ := isb_block h.hw
  have n1 := one_ne_two h.ho hblk
  have n2 := one_ne_two h.hs hblk
  have n3 := one_ne_two h.hk hblk
  have m1 := Lib.hid (own_ne h.own h.ho (by decide))
  have m2 := Lib.hid (own_ne h.own h.hs (by decide))
  have m3 := Lib.hid (own_ne h.own h.hk (by decide))
  have hx5 : (⟨wi.toArray⟩ : ByteArray).size ≤ 1099511627776 := by rw [Lib.size_eq]; exact h5
  have x1 : Bs ≠ Bo := h.hs.ne h.ho (by decide)
  have x2 : Bk ≠ Bo := h.hk.ne h.ho (by decide)
  have m4 := Lib.hid (own_ne_two h.own hblk)
  have m5 := Lib.hid (fun e => m4.out Bw e.symm rfl : some Bw ≠ (Value.slice A n c).ownBlock)
  have HWd := Lib.hid (show Lib.IsBuilderF 70 5 base Bw (Lib.byteCells wi) w.drew from h.hw)
  clear h hblk
  go_enter Try.func47, Try.ntmps47
  go_upto_region 0 with fail
  go_cut [] (fun wx => Hid (PD1 base Bs Bo Bw Bk s out (leanOf s.data.toList ⟨kept, tt, ⟨wi.toArray⟩⟩) n kept (Value.slice A n c).ownBlock w wx))
  case first =>
    go_region_with (first | (go_at_call 43; refine (Try.Builder_String_any_k base Bw wi w.drew HWd.out hbw).mono ?_; rintro e' w2 ⟨rfl, hw2, hb2, ho2⟩; have z2 : w.heap.size ≤ w2.heap.size := hb2.size; have kp2 : Kp [Bw] (Value.slice A n c).ownBlock w w2 := Kp.of_others (w := w) ho2 z2 _; have o2 := Lib.hid (kp2.one H.out.ho (by simpa using n1) m1.out (by decide)); have s2 := Lib.hid (kp2.one H.out.hs (by simpa using n2) m2.out (by decide)); have k2 := Lib.hid (kp2.one H.out.hk (by simpa using n3) m3.out (by decide)); have c21 := o2.out.cell; have c22 := s2.out.cell; have c23 := k2.out.cell) | (go_at_call 46; refine (appendLean_any s ⟨wi.toArray⟩ kept tt A n c base (edCells out) w2 (own_kp (w := w) H.out.own (Kp.of_others (w := w) ho2 z2 none) (fun g hg => ⟨by simpa using m4.out g hg, by simp⟩)) (by omega) h6 h1 h2 h3 h4 hx5).mono ?_; rintro e' w3 ⟨A3, c3, rfl, ho3, hg3, hr3⟩; have kp3 := Kp.of_grown hg3; have o3 := Lib.hid (kp3.one o2.out (by simp) m1.out (by decide)); have s3 := Lib.hid (kp3.one s2.out (by simp) m2.out (by decide)); have k3 := Lib.hid (kp3.one k2.out (by simp) m3.out (by decide)); have c31 := o3.out.cell; have f31 := o3.out.frozen))
    all_goals (go_wp2_with fail; go_meet; exact pd1_close ⟨hb2.os, hb2.tape, hb2.output, hb2.size, hb2.block⟩ kp2 hg3 ho3 o3.out s3.out k3.out (Exists.imp (fun _ h => Exists.imp (fun _ h => h.1) h) (isb_block hw2)) hr3 H.out.b1 n1 m5.out (fun g hg => (H.out.own.lt g hg).1) hbw)
  case rest =>
    obtain ⟨m, A3, c3, hm, q1, q2, q3, ⟨p3, v3, q4⟩, q5, q6, q7, q8⟩ := hcut.out
    have HQ := Lib.hid (And.intro q1 (And.intro q2 (And.intro q3 (And.intro q5 (And.intro q6 (And.intro q7 q8))))))
    have HM := Lib.hid hm
    have HQ4 := Lib.hid q4
    clear hcut q1 q2 q3 q4 q5 q6 q7 q8 hm
    go_wp2_with fail
    refine (reset_any base Bw p3 v3 _ hbB HQ4.out).mono ?_
    rintro e w4 ⟨rfl, r1, r2, r3⟩
    have HRR := Lib.hid (And.intro r1 (And.intro r2 r3))
    clear r1 r2 r3
    go_wp2
    go_end0
    obtain ⟨q1, q2, q3, q5, q6, q7, q8⟩ := HQ.out
    obtain ⟨r1, r2, r3⟩ := HRR.out
    have r3' : ∀ row, Kp [Bw] row _ w4 := fun row => ⟨r3.1, fun k o hk hx _ ho => r3.2 k o hk hx (by simp) ho⟩
    have hmn : (out ++ leanOf s.data.toList ⟨kept, tt, ⟨wi.toArray⟩⟩).length = m := by rw [List.length_append, HM.out, H.out.hn]
    have hob := own_ne_two q5 HQ4.out
    refine ⟨m, A3, c3, rfl, ⟨r3.one q2 (by simpa using n2) (by simp) (by decide), r3.one q1 (by simpa using n1) (by simp) (by decide), r3.one q3 (by simpa using n3) (by simp) (by decide), r1, own_kp q5 r3 (fun g hg => ⟨by simpa using hob g hg, by simp⟩), hmn, H.out.b1, H.out.b2, Nat.le_trans (Nat.le_trans hbw q7.1) r3.1⟩, q6.trans r2, ?_, q8⟩
    exact q7.trans ((r3' _).more (by simp)) q8
end Go.Proofs.Ytpifobaejmfppaa
