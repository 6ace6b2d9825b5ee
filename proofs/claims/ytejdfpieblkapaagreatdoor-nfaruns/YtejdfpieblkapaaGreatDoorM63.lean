/- Carried from another seat. -/
import Derived.Test.YtejdfpieblkapaaGreatDoorM61
import Derived.Test.YtejdfpieblkapaaGreatDoorM62
namespace Go.Proofs.YtejdfpieblkapaaGreatDoor
open Go.RowKit Go.Shelf

/-- factor's state: the text, the result's box, the node's box with its node. -/
structure FcS (w : World) (X : Nat) (s : ByteArray) (wr : World) (d : Int) (j : Nat) (bad great : Bool) (r : Rx) (cs : List Value) : Prop where
  tx : TxB wr X s j d bad great
  res : RfB wr w.heap.size (fun _ => false)
  nd : wr.heap[w.heap.size + 1]? = some (.cells cs.toArray 36 (0, 0))
  rf : RfQ (fun k => w.heap.size + 2 ≤ k) wr r cs
  kb : Kb (fun k => k = X) w wr
section
variable {w : World} {X : Nat} {s : ByteArray} {wr w2 : World} {d d' : Int} {j j' : Nat} {bad bad' great great' : Bool} {r : Rx} {cs : List Value}
theorem FcS.txk (H : FcS w X s wr d j bad great r cs) (hX : X < w.heap.size) (k : Kb (fun i => i = X) wr w2) (t : TxB w2 X s j' d' bad' great') : FcS w X s w2 d' j' bad' great' r cs :=
  ⟨t, (k.block _ (lt_of_heap H.res) (by omega)).trans H.res, (k.block _ (lt_of_heap H.nd) (by omega)).trans H.nd, H.rf.keep k (fun i _ h he => by omega), H.kb.trans k (fun _ _ h => h)⟩
theorem FcS.below (H : FcS w X s wr d j bad great r cs) (hb : Below wr.heap.size wr w2) : FcS w X s w2 d j bad great r cs :=
  ⟨H.tx.below hb, (hb.block _ (lt_of_heap H.res)).trans H.res, (hb.block _ (lt_of_heap H.nd)).trans H.nd, H.rf.keep (Kb.of_below (fun _ => False) hb) (fun _ _ _ h => h), H.kb.trans (Kb.of_below _ hb) (fun _ _ h => h)⟩
/-- Another node goes into the box. -/
theorem FcS.put (H : FcS w X s wr d j bad great r cs) (hX : X < w.heap.size) {r' : Rx} {cs' : List Value} (hr : RfQ (fun k => w.heap.size + 2 ≤ k) wr r' cs') : FcS w X s (wr.setRow (w.heap.size + 1) cs'.toArray) d j bad great r' cs' :=
  have kb := setRow_kb wr (w.heap.size + 1) cs'.toArray
  ⟨(kb.block _ (lt_of_heap H.tx) (by omega)).trans H.tx, (kb.block _ (lt_of_heap H.res) (by omega)).trans H.res, setRow_heap wr _ _ _ 36 (0, 0) H.nd, hr.keep kb (fun i _ h he => by omega), H.kb.trans kb (fun i hi h => by omega)⟩
theorem FcS.fin (H : FcS w X s wr d j bad great r cs) (hX : X < w.heap.size) : Kb (fun k => k = X) w (wr.setRow w.heap.size cs.toArray) ∧ TxB (wr.setRow w.heap.size cs.toArray) X s j d bad great ∧ (wr.setRow w.heap.size cs.toArray).heap[w.heap.size]? = some (.cells cs.toArray 36 (0, 0)) ∧ RfQ (fun k => w.heap.size ≤ k) (wr.setRow w.heap.size cs.toArray) r cs :=
  have kb := setRow_kb wr w.heap.size cs.toArray
  ⟨H.kb.trans kb (fun i hi h => by omega), (kb.block _ (lt_of_heap H.tx) (by omega)).trans H.tx, setRow_heap wr _ _ _ 36 (0, 0) H.res, (H.rf.keep kb (fun i _ h he => by omega)).mono (fun i _ h => by omega)⟩
/-- One place of a set in the box. -/
theorem FcS.set {f : Nat → Bool} {u u' : Ws} (H : FcS w X s wr d j bad great (.set u) (RfC 0 (bls f) (.slice none 0 0))) (hX : X < w.heap.size) {k : Nat} (hk : k < 256) (v : Bool) (hu : ∀ m, m < 256 → (if m = k then v else f m) = u'.hasN m) : FcS w X s (wr.setCell ⟨w.heap.size + 1, 1 + k, none⟩ (.bool v)) d j bad great (.set u') (RfC 0 (bls (fun i => if i = k then v else f i)) (.slice none 0 0)) :=
  have kb := Kb.setCell wr ⟨w.heap.size + 1, 1 + k, none⟩ (.bool v)
  ⟨(kb.block _ (lt_of_heap H.tx) (by show X ≠ w.heap.size + 1; omega)).trans H.tx, (kb.block _ (lt_of_heap H.res) (by show w.heap.size ≠ w.heap.size + 1; omega)).trans H.res, RfB.set (f := f) H.nd hk v, (by show _ = _; rw [bls_ext hu]; rfl), H.kb.trans kb (fun i hi h => by have h' : i = w.heap.size + 1 := h; omega)⟩
end
/-- What factor answers. -/
def FaTo (X : Nat) (s : ByteArray) (d i : Nat) (great : Bool) (w : World) (e : Ending) (w' : World) : Prop :=
  ∃ r cs gr, e = .returned (.agg cs.toArray) ∧ RfQ (fun k => w.heap.size ≤ k) w' r cs ∧ Kb (fun j => j = X) w w' ∧ (gr = true → great = true ∨ FDead s.data.toList d i) ∧
    ((∃ j, FacP s.data.toList d i r j ∧ i < j ∧ j ≤ s.size ∧ r.size + 3 ≤ 1000 * (j - i) ∧ TxB w' X s j d false gr) ∨ (∃ (j : Nat) (d' : Int), j ≤ s.size ∧ r.size ≤ 3000 * (s.size + 1 - i) ∧ TxB w' X s j d' true gr ∧ FDead s.data.toList d i))
/-- What or answers. -/
def OrTo (X : Nat) (s : ByteArray) (d i : Nat) (great : Bool) (w : World) (e : Ending) (w' : World) : Prop :=
  ∃ r cs gr, e = .returned (.agg cs.toArray) ∧ RfQ (fun k => w.heap.size ≤ k) w' r cs ∧ Kb (fun j => j = X) w w' ∧ (gr = true → great = true ∨ ODead s.data.toList d i ∨ 400 < r.size) ∧
    ((∃ j, OrP s.data.toList d [] i r j ∧ i ≤ j ∧ j ≤ s.size ∧ (j = s.size ∨ nx s.data.toList j = 41) ∧ r.size ≤ 1000 * (j - i) + 1 ∧ TxB w' X s j d false gr) ∨ (∃ (j : Nat) (d' : Int), j ≤ s.size ∧ r.size ≤ 3000 * (s.size + 1 - i) ∧ TxB w' X s j d' true gr ∧ ODead s.data.toList d i))
def FacOk (s : ByteArray) (i : Nat) : Prop := ∀ (w : World) (X : Nat) (great : Bool) (d : Nat), TxB w X s i d false great → i < s.size → nx s.data.toList i ≠ 124 → nx s.data.toList i ≠ 41 → d ≤ 50 → Calls Tryz.prog 118 #[ptr X] w (FaTo X s d i great w)
def OrOk (s : ByteArray) (i : Nat) : Prop := ∀ (w : World) (X : Nat) (great : Bool) (d : Nat), TxB w X s i d false great → i ≤ s.size → d ≤ 50 → Calls Tryz.prog 76 #[ptr X] w (OrTo X s d i great w)
/-- Between the suffixes: what was read. -/
structure FcL (w : World) (X : Nat) (s : ByteArray) (d i : Nat) (great0 : Bool) (wr : World) (d' : Int) (j : Nat) (bad gr : Bool) (r : Rx) (cs : List Value) : Prop where
  st : FcS w X s wr d' j bad gr r cs
  js : j ≤ s.size
  gr : gr = true → great0 = true ∨ FDead s.data.toList d i
  ok : bad = false → FacS s.data.toList d i r j ∧ d' = d ∧ i < j ∧ r.size + 3 ≤ 1000 * (j - i)
  bad : bad = true → FDead s.data.toList d i ∧ r.size ≤ 3000 * (s.size + 1 - i)
theorem FcL.to {w : World} {X : Nat} {s : ByteArray} {d i : Nat} {great0 : Bool} {wr : World} {d' : Int} {j : Nat} {bad gr : Bool} {r : Rx} {cs : List Value} (H : FcL w X s d i great0 wr d' j bad gr r cs) (hX : X < w.heap.size) (hst : bad = false → inS REP (nx s.data.toList j) = false) : FaTo X s d i great0 w (.returned (.agg cs.toArray)) (wr.setRow w.heap.size cs.toArray) := by
  obtain ⟨k1, k2, _, k4⟩ := H.st.fin hX
  refine ⟨r, cs, gr, rfl, k4, k1, H.gr, ?_⟩
  cases bad with
  | false =>
    obtain ⟨h1, rfl, h3, h4⟩ := H.ok rfl
    exact .inl ⟨j, h1.ends _ _ (.stop (hst rfl)), h3, H.js, h4, k2⟩
  | true =>
    obtain ⟨h1, h2⟩ := H.bad rfl
    exact .inr ⟨j, d', H.js, h2, k2, h1⟩
theorem rep_three {c : Nat} (hc : c < 256) (h : inS REP c = true) : c = 42 ∨ c = 43 ∨ c = 63 := by
  rw [inS_mem, decide_eq_true_iff] at h
  have h3 : c.toUInt8 = 42 ∨ c.toUInt8 = 43 ∨ c.toUInt8 = 63 := by simpa [REP] using h
  have hh : ∀ x : UInt8, c.toUInt8 = x → c = x.toNat := fun x e => by
    rw [← e, UInt8.toNat_ofNat']; exact (Nat.mod_eq_of_lt hc).symm
  rcases h3 with h3 | h3 | h3
  · exact .inl (hh _ h3)
  · exact .inr (.inl (hh _ h3))
  · exact .inr (.inr (hh _ h3))
theorem dot_has (m : Nat) (hm : m < 256) : ((btw 10 1).inv 4).hasN m = !decide (m = 10) := by
  rw [Ws.hasN_inv _ (btw_ok _ _) m hm, btw_has 10 1 m (by omega) hm]
  congr 1
  rw [Bool.eq_iff_iff]; simp; omega
theorem TxB.deep' {w : World} {X : Nat} {s : ByteArray} {i : Nat} {d : Int} {bad great : Bool} (h : TxB w X s i d bad great) (d' : Int) : TxB (w.setCell ⟨X, 2, none⟩ (.int .i64 d')) X s i d' bad great := by
  unfold TxB at *
  rw [set_heap w X 2 _ _ _ _ h]; rfl
theorem TxB.great' {w : World} {X : Nat} {s : ByteArray} {i : Nat} {d : Int} {bad great : Bool} (h : TxB w X s i d bad great) (b : Bool) : TxB (w.setCell ⟨X, 4, none⟩ (.bool b)) X s i d bad b := by
  unfold TxB at *
  rw [set_heap w X 4 _ _ _ _ h]; rfl
theorem outS_size : OUT.size ≤ 1000 := by decide
theorem repS_size : REP.size ≤ 1000 := by decide

end Go.Proofs.YtejdfpieblkapaaGreatDoor
