/- What gather and the end of a run do. -/
import Derived.Test.YtpifobaejmfppaaP
import Derived.Test.YtpifobaejmfppaaQ
namespace Go.Proofs.Ytpifobaejmfppaa
open Go.RowKit

set_option maxHeartbeats 400000 in
theorem end_any (x : ByteArray) (k : Bool) (f : Int) (w : World) (h1 : 0 ≤ f) (h2 : f ≤ 1099511627776) (h3 : x.size ≤ 1099511627776) :
    Calls Try.prog 50 #[.agg #[.string x, .bool k, .int .i64 f]] w fun e w' => e = .returned (.int .i64 (f + x.size)) ∧ Below w.heap.size w w' := by
  go_enter Try.func50, Try.ntmps50
  go_wp2
  go_ret
  exact ⟨rfl, (Below.refl _ _).alloc (Nat.le_refl _) _⟩

set_option maxHeartbeats 400000 in
theorem drop_any (x : ByteArray) (k : Bool) (f : Int) (w : World) :
    Calls Try.prog 53 #[.agg #[.string x, .bool k, .int .i64 f]] w fun e w' => e = .returned (.tuple #[]) ∧ Below w.heap.size w w' := by
  go_enter Try.func53, Try.ntmps53
  go_wp2
  go_end0
  exact ⟨rfl, (Below.refl _ _).alloc (Nat.le_refl _) _⟩

theorem isb_keep {base b : Nat} {bs : List Value} {w w' : World} (h : Lib.IsBuilderF 70 5 base b bs w) (hk : ∀ (k : Nat) (o : Obj), w.heap[k]? = some o → (∃ c t fz, o = Obj.cells c t fz ∧ (t = 70 ∨ t = 5)) → w'.heap[k]? = some o) : Lib.IsBuilderF 70 5 base b bs w' := by
  have key : ∀ p, Lib.BuilderAtF 70 5 base b p bs w → Lib.BuilderAtF 70 5 base b p bs w' := by
    rintro p ⟨hB, v, hbk, hown, hne⟩
    refine ⟨hB, v, hk b _ hbk ⟨_, _, _, rfl, .inl rfl⟩, ⟨hown.1, ?_⟩, hne⟩
    rcases hown.2 with hn | ⟨g, cap, cur, fz, rfl, hb, hgg, rest⟩
    · exact .inl hn
    · exact .inr ⟨g, cap, cur, fz, rfl, hb, hk g _ hgg ⟨_, _, _, rfl, .inr rfl⟩, rest⟩
  exact h.imp (key _) (key _)

theorem isb_set {base b b' t : Nat} {v : Value} {bs : List Value} {w : World} (h : Lib.IsBuilderF 70 5 base b bs w) (ho : One w b' t v) (h1 : t ≠ 70) (h2 : t ≠ 5) (u : Value) : Lib.IsBuilderF 70 5 base b bs (w.setCell ⟨b', 0, none⟩ u) := by
  refine isb_keep h fun k o hk ⟨c, t', fz, he, ht⟩ => (Below.heap_setCell w ⟨b', 0, none⟩ u k ?_).trans hk
  rintro rfl
  unfold One at ho
  rw [ho] at hk
  injection hk with hk
  rw [he] at hk
  injection hk with _ h3
  rcases ht with ht | ht
  · exact h1 (h3.trans ht)
  · exact h2 (h3.trans ht)

/-- The closure putDown, as a value. -/
def pdVal (Bs Bo Bw Bk : Nat) : Value := .func (.func 47) #[] #[.pointer (some ⟨Bo, 0, none⟩), .pointer (some ⟨Bs, 0, none⟩), .pointer (some ⟨Bk, 0, none⟩), .pointer (some ⟨Bw, 0, none⟩)]

/-- What gather leaves. -/
def GaBack (base Bs Bo Bw Bk Bp : Nat) (s : ByteArray) (out : List Ed) (wi : List UInt8) (kept : Int) (row : Option Nat) (w : World) (e : Ending) (w' : World) : Prop :=
  ∃ n A c, e = .returned (.tuple #[]) ∧ CSt base Bs Bo Bw Bk s out n wi kept A c w' ∧ One w' Bp 71 (pdVal Bs Bo Bw Bk) ∧ Below base w w' ∧ Kp [Bo, Bw, Bk] row w w' ∧ RowNext w row (Value.slice A n c).ownBlock

theorem CSt.kp {base Bs Bo Bw Bk : Nat} {s : ByteArray} {out : List Ed} {n : Nat} {wi wi' : List UInt8} {kept : Int} {A : Option Addr} {c : Nat} {w w' : World} (h : CSt base Bs Bo Bw Bk s out n wi kept A c w) (row : Option Nat) (_hk : Kp [Bw] row w w') (_hr : row = none ∨ row = (Value.slice A n c).ownBlock) (hg : Kp [Bw] none w w') (hw : Lib.IsBuilderF 70 5 base Bw (Lib.byteCells wi') w') : CSt base Bs Bo Bw Bk s out n wi' kept A c w' := by
  obtain ⟨p, v, hblk, _⟩ := isb_block h.hw
  exact ⟨hg.one h.hs (by simpa using one_ne_two h.hs hblk) (by simp) (by decide), hg.one h.ho (by simpa using one_ne_two h.ho hblk) (by simp) (by decide), hg.one h.hk (by simpa using one_ne_two h.hk hblk) (by simp) (by decide), hw, own_kp h.own hg (fun g he => ⟨by simpa using own_ne_two h.own hblk g he, by simp⟩), h.hn, h.b1, h.b2, Nat.le_trans h.b3 hg.1⟩

set_option maxRecDepth 100000 in
set_option maxHeartbeats 1000000 in
theorem gather_no (base Bs Bo Bw Bk Bp : Nat) (s x : ByteArray) (f : Int) (out : List Ed) (n : Nat) (wi : List UInt8) (kept : Int) (A : Option Addr) (c : Nat) (w : World) (h : CSt base Bs Bo Bw Bk s out n wi kept A c w) (hp : One w Bp 71 (pdVal Bs Bo Bw Bk))
    (h5 : wi.length + x.size ≤ 1099511627776) :
    Calls Try.prog 49 #[.agg #[.string x, .bool false, .int .i64 f], .pointer (some ⟨Bw, 0, none⟩), .pointer (some ⟨Bp, 0, none⟩), .pointer (some ⟨Bk, 0, none⟩)] w
      (GaBack base Bs Bo Bw Bk Bp s out (wi ++ x.data.toList) kept (Value.slice A n c).ownBlock w) := by
  have H := Lib.hid h
  have HP := Lib.hid hp
  have hb3 := h.b3
  obtain ⟨p0, v0, hblk, hbB⟩ := isb_block h.hw
  have n1 := one_ne_two hp hblk
  have HWd := Lib.hid (show Lib.IsBuilderF 70 5 base Bw (Lib.byteCells wi) (w.alloc (.cells #[.string x, .bool false, .int .i64 f] 80)) from h.hw.alloc _)
  clear h hp hblk
  go_enter Try.func49, Try.ntmps49
  go_wp2_with fail
  refine (Try.Builder_WriteString_k base Bw _ x _ HWd.out (by rw [Lib.byteCells_length]; omega) (by simp; omega)).mono ?_
  rintro e w2 ⟨rfl, hw2, hb2, ho2⟩
  have HF := Lib.hid (And.intro hw2 (And.intro hb2 ho2))
  clear hw2 hb2 ho2
  go_wp2
  first | go_end0 | refine bodyPost_ret (results_none rfl _ _ _) rfl ?_
  obtain ⟨hw2, hb2, ho2⟩ := HF.out
  have hb2' : Below base w w2 := ((Below.refl base w).alloc hb3 _).trans hb2
  have kp : ∀ row, Kp [Bw] row w w2 := fun row => ((Kp.refl [Bw] row w).alloc _).trans (Kp.of_others ho2 hb2.size row) (.inl rfl)
  refine ⟨n, A, c, rfl, H.out.kp none (kp _) (.inl rfl) (kp _) (.inr (by rw [Lib.byteCells_append]; exact hw2)), (kp none).one HP.out (by simpa using n1) (by simp) (by decide), hb2', (kp _).more (by simp), .inl rfl⟩

set_option maxRecDepth 100000 in
set_option maxHeartbeats 1000000 in
theorem gather_yes (base Bs Bo Bw Bk Bp : Nat) (s x : ByteArray) (f : Int) (out : List Ed) (n : Nat) (wi : List UInt8) (kept : Int) (A : Option Addr) (c : Nat) (w : World) (h : CSt base Bs Bo Bw Bk s out n wi kept A c w) (hp : One w Bp 71 (pdVal Bs Bo Bw Bk))
    (h1 : 0 ≤ kept) (h2 : kept ≤ f) (h3 : f + x.size ≤ s.size) (h4 : s.size ≤ 1099511627776) (h5 : wi.length ≤ 1099511627776) (h6 : n ≤ 1048576) :
    Calls Try.prog 49 #[.agg #[.string x, .bool true, .int .i64 f], .pointer (some ⟨Bw, 0, none⟩), .pointer (some ⟨Bp, 0, none⟩), .pointer (some ⟨Bk, 0, none⟩)] w
      (GaBack base Bs Bo Bw Bk Bp s (out ++ leanOf s.data.toList ⟨kept, f, ⟨wi.toArray⟩⟩) [] (f + x.size) (Value.slice A n c).ownBlock w) := by
  have H := Lib.hid h
  have HP := Lib.hid hp
  have hb3 := h.b3
  have hp1 : One (w.alloc (.cells #[.string x, .bool true, .int .i64 f] 80)) Bp 71 (pdVal Bs Bo Bw Bk) := (Below.heap_alloc w _ Bp hp.lt).trans hp
  have hal : Below w.heap.size w (w.alloc (.cells #[.string x, .bool true, .int .i64 f] 80)) := (Below.refl _ _).alloc (Nat.le_refl _) _
  have kal : ∀ ex row, Kp ex row w (w.alloc (.cells #[.string x, .bool true, .int .i64 f] 80)) := fun ex row => (Kp.refl _ _ _).alloc _
  have h1' : CSt base Bs Bo Bw Bk s out n wi kept A c (w.alloc (.cells #[.string x, .bool true, .int .i64 f] 80)) := h.kp none (kal _ _) (.inl rfl) (kal _ _) (h.hw.alloc _)
  have hbox := heap_alloc_new w (.cells #[.string x, .bool true, .int .i64 f] 80)
  have cp := hp1.cell
  unfold pdVal at cp
  have cp' : w.cell? ⟨Bp, 0, none⟩ = some (.func (.func 47) #[] #[.pointer (some ⟨Bo, 0, none⟩), .pointer (some ⟨Bs, 0, none⟩), .pointer (some ⟨Bk, 0, none⟩), .pointer (some ⟨Bw, 0, none⟩)]) := hp.cell
  have hpl := hp.lt
  have H1 := Lib.hid h1'
  have HBX := Lib.hid hbox
  have HP1 := Lib.hid hp1
  obtain ⟨p0, v0, hblk, hbB⟩ := isb_block h.hw
  have n1 := one_ne_two hp hblk
  have n2 := one_ne_two h.hk hblk
  have x1 : Bp ≠ Bo := hp.ne h.ho (by decide)
  have x2 : Bp ≠ Bk := hp.ne h.hk (by decide)
  have m1 := Lib.hid (own_ne h.own hp (by decide))
  have m2 := Lib.hid (show some w.heap.size ≠ (Value.slice A n c).ownBlock from fun e => by have := (h.own.lt _ e.symm).2; omega)
  have l1 := h.ho.lt
  have l2 : Bw < w.heap.size := lt_of_heap hblk
  clear h hp hblk hp1 h1' hbox hal kal
  go_enter Try.func49, Try.ntmps49
  go_wp2_with fail
  refine (putDown_any base Bs Bo Bw Bk s out n wi kept f A c _ H1.out h1 h2 (by omega) h4 h5 h6).mono ?_
  rintro e w2 ⟨nn, A2, c2, rfl, hc2, hb2, kp2, hr2⟩
  have hbx2 := kp2.2 w.heap.size _ HBX.out (by simp; omega) m2.out (fun cc fz e => by cases e)
  have d0 : w2.cell? ⟨w.heap.size, 0, none⟩ = some (.string x) := by rw [Lib.cell_of_heap hbx2]; rfl
  have d1 : w2.cell? ⟨w.heap.size, 1, none⟩ = some (.bool true) := by rw [Lib.cell_of_heap hbx2]; rfl
  have d2 : w2.cell? ⟨w.heap.size, 2, none⟩ = some (.int .i64 f) := by rw [Lib.cell_of_heap hbx2]; rfl
  have HC2 := Lib.hid hc2; have HB2 := Lib.hid hb2; have HK2 := Lib.hid kp2; have HR2 := Lib.hid hr2
  clear hc2 hb2 kp2 hr2 hbx2
  go_wp2_with fail
  refine (end_any x true f _ (by omega) (by omega) (by omega)).mono ?_
  rintro e w3 ⟨rfl, hb3'⟩
  have hk3 : One w3 Bk 3 (.int .i64 kept) := (hb3'.block _ HC2.out.hk.lt).trans HC2.out.hk
  have ck := hk3.cell
  have fk := hk3.frozen
  have HK3 := Lib.hid hk3; have HB3 := Lib.hid hb3'
  clear hk3 hb3'
  go_wp2
  go_end0
  have hc2 := HC2.out
  have hb3' := HB3.out
  have hk3 := HK3.out
  have kb3 : Kp [] none w2 w3 := Kp.of_below hb3' none
  have kset : Kp [Bk] none w3 (w3.setCell ⟨Bk, 0, none⟩ (.int .i64 (f + (x.size : Int)))) := (Kp.refl _ _ _).setCell (p := ⟨Bk, 0, none⟩) (.inl (by simp)) _
  have kall : ∀ row, Kp [Bk] row w2 (w3.setCell ⟨Bk, 0, none⟩ (.int .i64 (f + (x.size : Int)))) := fun row => ((Kp.of_below hb3' row).more (by simp)).setCell (p := ⟨Bk, 0, none⟩) (.inl (by simp)) _
  have ho3 := kb3.one hc2.ho (by simp) (by simp) (by decide)
  have hs3 := kb3.one hc2.hs (by simp) (by simp) (by decide)
  have hw3 : Lib.IsBuilderF 70 5 base Bw (Lib.byteCells []) w3 := isb_keep hc2.hw (fun k o hk _ => (hb3'.block k (lt_of_heap hk)).trans hk)
  have own3 := own_below hc2.own hb3'
  have hnk := own_ne own3 hk3 (by decide)
  refine ⟨nn, A2, c2, rfl, ⟨kset.one hs3 (by simpa using hs3.ne hk3 (by decide)) (by simp) (by decide), kset.one ho3 (by simpa using ho3.ne hk3 (by decide)) (by simp) (by decide), hk3.set _, isb_set hw3 hk3 (by decide) (by decide) _, own_kp own3 kset (fun g hg => ⟨by rintro hm; simp at hm; subst hm; exact hnk hg.symm, by simp⟩), hc2.hn, hc2.b1, hc2.b2, Nat.le_trans hc2.b3 (Nat.le_trans kb3.1 kset.1)⟩, ?_, ?_, ?_, ?_⟩
  · have hp2 := HK2.out.one HP1.out (by simp; omega) m1.out (by decide)
    exact (kall none).one hp2 (by simpa using x2) (by simp) (by decide)
  · have hb0 : Below base w (w.alloc (.cells #[.string x, .bool true, .int .i64 f] 80)) := (Below.refl _ _).alloc hb3 _
    exact ((hb0.trans HB2.out).trans (hb3'.mono hc2.b3)).setCell (p := ⟨Bk, 0, none⟩) hc2.b2 _
  · have k0 : Kp [Bo, Bw, Bk] (Value.slice A n c).ownBlock w (w.alloc (.cells #[.string x, .bool true, .int .i64 f] 80)) := (Kp.refl _ _ _).alloc _
    refine (k0.trans (HK2.out.more (by simp)) (.inl rfl)).trans ((kall _).more (by simp)) (.inl rfl)
  · rcases HR2.out with h | ⟨g, h, hg⟩
    · exact .inl h
    · exact .inr ⟨g, h, by simp at hg; omega⟩
end Go.Proofs.Ytpifobaejmfppaa
