/- Carried from another seat. -/
import Derived.Test.YtejdfpieblkapaaGreatDoorM54
import Derived.Test.YtejdfpieblkapaaGreatDoorM1
import Derived.Deep.OwnRows
import Derived.Test.YtejdfpieblkapaaGreatDoorM40
namespace Go.Proofs.YtejdfpieblkapaaGreatDoor
open Go.RowKit Go.Shelf

theorem Ws.hasN_un (s t : Ws) (m : Nat) (hm : m < 256) : (s.un t).hasN m = (s.hasN m || t.hasN m) := by
 unfold Ws.hasN
 rw [testBit_eq, testBit_eq, testBit_eq]
 rcases (show m / 64 = 0 ∨ m / 64 = 1 ∨ m / 64 = 2 ∨ m / 64 = 3 by omega) with h | h | h | h <;> simp only [Ws.un, Ws.word, h, Nat.testBit_or]
theorem inv64_bit (x k : Nat) (hx : x < 2 ^ 64) (hk : k < 64) : (inv64 x).testBit k = !x.testBit k := by
 have e : inv64 x = 2 ^ 64 - (x + 1) := by unfold inv64; omega
 rw [e, Nat.testBit_two_pow_sub_succ hx]
 simp [hk]
theorem Ws.hasN_inv (s : Ws) (hs : s.Ok) (m : Nat) (hm : m < 256) : (s.inv 4).hasN m = !s.hasN m := by
 unfold Ws.hasN
 rw [testBit_eq, testBit_eq]
 have hk : m % 64 < 64 := Nat.mod_lt _ (by decide)
 rcases (show m / 64 = 0 ∨ m / 64 = 1 ∨ m / 64 = 2 ∨ m / 64 = 3 by omega) with h | h | h | h
 ·simp only [Ws.inv, Ws.word, h]; exact inv64_bit _ _ hs.a hk
 ·simp only [Ws.inv, Ws.word, h]; exact inv64_bit _ _ hs.b hk
 ·simp only [Ws.inv, Ws.word, h]; exact inv64_bit _ _ hs.c hk
 ·simp only [Ws.inv, Ws.word, h]; exact inv64_bit _ _ hs.d hk
theorem ws0_has (m : Nat) (hm : m < 256) : ws0.hasN m = false := by
 have := btw_has 0 0 m (by omega) hm
 rw [show ws0 = btw 0 0 from rfl, this]; simp
theorem un_ne {s : Ws} {f k : Nat} (hk : f + (k + 1) ≤ 256) : s.un (btw f (k + 1)) ≠ ws0 := fun h => by
 have h1 := Ws.hasN_un s (btw f (k + 1)) f (by omega)
 rw [h, ws0_has f (by omega), btw_has f (k + 1) f hk (by omega)] at h1
 have : decide (f ≤ f ∧ f < f + (k + 1)) = true := decide_eq_true (by omega)
 rw [this] at h1
 simp at h1

def bls (f : Nat → Bool) : List Value := (List.range 256).map fun k => .bool (f k)
theorem bls_len (f : Nat → Bool) : (bls f).length = 256 := by simp [bls]
theorem bls_ext {f g : Nat → Bool} (h : ∀ k, k < 256 → f k = g k) : bls f = bls g := by
 unfold bls
 exact List.map_congr_left (fun k hk => by rw [h k (List.mem_range.1 hk)])
theorem bls_get (f : Nat → Bool) {k : Nat} (hk : k < 256) : (bls f)[k]? = some (.bool (f k)) := by simp [bls, hk]
theorem bls_set (f : Nat → Bool) (k : Nat) (v : Bool) : (bls f).set k (.bool v) = bls (fun i => if i = k then v else f i) := by
 apply List.ext_getElem?
 intro i
 rw [List.getElem?_set]
 by_cases h : k = i
 ·subst h
  by_cases hk : k < 256
  ·rw [if_pos rfl, if_pos (by rw [bls_len]; exact hk), bls_get _ hk]; simp
  ·rw [if_pos rfl, if_neg (by rw [bls_len]; exact hk), List.getElem?_eq_none (by rw [bls_len]; omega)]
 ·rw [if_neg h]
  by_cases hk : i < 256
  ·rw [bls_get _ hk, bls_get _ hk, if_neg (Ne.symm h)]
  ·rw [List.getElem?_eq_none (by rw [bls_len]; omega), List.getElem?_eq_none (by rw [bls_len]; omega)]
theorem RfC_get (K : Int) (f : Nat → Bool) (L : Value) {k : Nat} (hk : k < 256) : (RfC K (bls f) L)[1 + k]? = some (.bool (f k)) := by
 unfold RfC
 rw [Nat.add_comm, List.getElem?_cons_succ, List.getElem?_append_left (by rw [bls_len]; exact hk), bls_get f hk]
theorem RfC_set (K : Int) (f : Nat → Bool) (L : Value) {k : Nat} (hk : k < 256) (v : Bool) : (RfC K (bls f) L).set (1 + k) (.bool v) = RfC K (bls (fun i => if i = k then v else f i)) L := by
 unfold RfC
 rw [Nat.add_comm, List.set_cons_succ, List.set_append_left _ _ (by rw [bls_len]; exact hk), bls_set]
def RfB (w : World) (b : Nat) (f : Nat → Bool) : Prop := w.heap[b]? = some (.cells (RfC 0 (bls f) (.slice none 0 0)).toArray 36 (0, 0))
theorem RfB.cell {w : World} {b : Nat} {f : Nat → Bool} (h : RfB w b f) {k : Nat} (hk : k < 256) : w.cell? ⟨b, 1 + k, none⟩ = some (.bool (f k)) ∧ w.frozen? ⟨b, 1 + k, none⟩ = false := by
 refine ⟨?_, Lib.frozen_of_heap h _⟩
 rw [Lib.cell_of_heap h]
 show (RfC 0 (bls f) (.slice none 0 0)).toArray[1 + k]? = _
 rw [List.getElem?_toArray, RfC_get 0 f _ hk]
theorem RfB.set {w : World} {b : Nat} {f : Nat → Bool} (h : RfB w b f) {k : Nat} (hk : k < 256) (v : Bool) : RfB (w.setCell ⟨b, 1 + k, none⟩ (.bool v)) b (fun i => if i = k then v else f i) := by
 unfold RfB at *
 rw [set_heap w b (1 + k) _ _ _ _ h]
 congr 2
 rw [Array.set!_eq_setIfInBounds, List.setIfInBounds_toArray, RfC_set 0 f _ hk v]
theorem RfB.ext {w : World} {b : Nat} {f g : Nat → Bool} (h : RfB w b f) (he : ∀ k, k < 256 → f k = g k) : RfB w b g := by
 unfold RfB at *; rw [h, bls_ext he]
theorem RfB.range {w : World} {b : Nat} {f : Nat → Bool} (h : RfB w b f) : w.rangeAt b 0 (RfC 0 (bls f) (.slice none 0 0)) := fun j v hv => by
 rw [Lib.cell_of_heap h]
 show (RfC 0 (bls f) (.slice none 0 0)).toArray[0 + j]? = _
 rw [List.getElem?_toArray, Nat.zero_add]; exact hv
theorem zero30 : Tryz.zeroCells36 = (RfC 0 (bls (fun _ => false)) (.slice none 0 0)).toArray := by kernel_rfl
end Go.Proofs.YtejdfpieblkapaaGreatDoor

/- Carried from another seat. -/
namespace Go.Proofs.YtejdfpieblkapaaGreatDoor
open Go.RowKit Go.Shelf

def RfQ (Q : Nat → Prop) (w : World) : Rx → List Value → Prop
 | .set s, cs => cs = RfC 0 (setB s) (.slice none 0 0)
 | .empty, cs => cs = RfC 1 noB (.slice none 0 0)
 | .cat x y, cs => ∃ g fz cx cy, cs = RfC 2 noB (.slice (some ⟨g, 0, none⟩) 2 2) ∧ w.heap[g]? = some (.cells (cx ++ cy).toArray 36 fz) ∧ Q g ∧ RfQ Q w x cx ∧ RfQ Q w y cy
 | .or x y, cs => ∃ g fz cx cy, cs = RfC 3 noB (.slice (some ⟨g, 0, none⟩) 2 2) ∧ w.heap[g]? = some (.cells (cx ++ cy).toArray 36 fz) ∧ Q g ∧ RfQ Q w x cx ∧ RfQ Q w y cy
 | .star x, cs => ∃ g fz cx, cs = RfC 4 noB (.slice (some ⟨g, 0, none⟩) 1 1) ∧ w.heap[g]? = some (.cells cx.toArray 36 fz) ∧ Q g ∧ RfQ Q w x cx
theorem RfQ.rf {Q : Nat → Prop} {w : World} : ∀ {r : Rx} {cs : List Value}, RfQ Q w r cs → RfV w r cs
 | .set _, _, h => h
 | .empty, _, h => h
 | .cat _ _, _, ⟨g, fz, cx, cy, h1, h2, _, h3, h4⟩ => ⟨g, fz, cx, cy, h1, h2, h3.rf, h4.rf⟩
 | .or _ _, _, ⟨g, fz, cx, cy, h1, h2, _, h3, h4⟩ => ⟨g, fz, cx, cy, h1, h2, h3.rf, h4.rf⟩
 | .star _, _, ⟨g, fz, cx, h1, h2, _, h3⟩ => ⟨g, fz, cx, h1, h2, h3.rf⟩
theorem RfQ.len {Q : Nat → Prop} {w : World} {r : Rx} {cs : List Value} (h : RfQ Q w r cs) : cs.length = 258 := h.rf.len
theorem RfQ.keep {Q ex : Nat → Prop} {w w' : World} (hk : Kb ex w w') (hx : ∀ i, i < w.heap.size → Q i → ¬ ex i) : ∀ {r : Rx} {cs : List Value}, RfQ Q w r cs → RfQ Q w' r cs
 | .set _, _, h => h
 | .empty, _, h => h
 | .cat _ _, _, ⟨g, fz, cx, cy, h1, h2, h5, h3, h4⟩ => ⟨g, fz, cx, cy, h1, (hk.block g (lt_of_heap h2) (hx g (lt_of_heap h2) h5)).trans h2, h5, h3.keep hk hx, h4.keep hk hx⟩
 | .or _ _, _, ⟨g, fz, cx, cy, h1, h2, h5, h3, h4⟩ => ⟨g, fz, cx, cy, h1, (hk.block g (lt_of_heap h2) (hx g (lt_of_heap h2) h5)).trans h2, h5, h3.keep hk hx, h4.keep hk hx⟩
 | .star _, _, ⟨g, fz, cx, h1, h2, h5, h3⟩ => ⟨g, fz, cx, h1, (hk.block g (lt_of_heap h2) (hx g (lt_of_heap h2) h5)).trans h2, h5, h3.keep hk hx⟩
theorem RfQ.mono {Q Q' : Nat → Prop} {w : World} (hx : ∀ i, i < w.heap.size → Q i → Q' i) : ∀ {r : Rx} {cs : List Value}, RfQ Q w r cs → RfQ Q' w r cs
 | .set _, _, h => h
 | .empty, _, h => h
 | .cat _ _, _, ⟨g, fz, cx, cy, h1, h2, h5, h3, h4⟩ => ⟨g, fz, cx, cy, h1, h2, hx g (lt_of_heap h2) h5, h3.mono hx, h4.mono hx⟩
 | .or _ _, _, ⟨g, fz, cx, cy, h1, h2, h5, h3, h4⟩ => ⟨g, fz, cx, cy, h1, h2, hx g (lt_of_heap h2) h5, h3.mono hx, h4.mono hx⟩
 | .star _, _, ⟨g, fz, cx, h1, h2, h5, h3⟩ => ⟨g, fz, cx, h1, h2, hx g (lt_of_heap h2) h5, h3.mono hx⟩
theorem bls_one (f : Nat → Bool) : ∀ v ∈ bls f, v.oneCell' = true := fun v hv => by
 obtain ⟨k, _, rfl⟩ := List.mem_map.1 hv; rfl
theorem RfC_one (k : Int) (f : Nat → Bool) (A : Option Addr) (n m : Nat) : ∀ v ∈ RfC k (bls f) (.slice A n m), v.oneCell' = true := fun v hv => by
 unfold RfC at hv
 rcases List.mem_cons.1 hv with rfl | hv
 ·rfl
 ·rcases List.mem_append.1 hv with hv | hv
  ·exact bls_one f v hv
  ·rcases List.mem_singleton.1 hv with rfl; rfl
theorem RfV.one {w : World} : ∀ {r : Rx} {cs : List Value}, RfV w r cs → ∀ v ∈ cs, v.oneCell' = true
 | .set s, cs, h => by rw [show cs = _ from h]; exact RfC_one 0 s.hasN none 0 0
 | .empty, cs, h => by rw [show cs = _ from h]; exact RfC_one 1 (fun _ => false) none 0 0
 | .cat _ _, cs, ⟨g, _, _, _, h, _⟩ => by rw [h]; exact RfC_one 2 (fun _ => false) _ 2 2
 | .or _ _, cs, ⟨g, _, _, _, h, _⟩ => by rw [h]; exact RfC_one 3 (fun _ => false) _ 2 2
 | .star _, cs, ⟨g, _, _, h, _⟩ => by rw [h]; exact RfC_one 4 (fun _ => false) _ 1 1

def RfR (Q : Nat → Prop) (w : World) : List Rx → List Value → Prop
 | [], cs => cs = []
 | r :: rs, cs => ∃ a b, cs = a ++ b ∧ RfQ Q w r a ∧ RfR Q w rs b
theorem RfR.keep {Q ex : Nat → Prop} {w w' : World} (hk : Kb ex w w') (hx : ∀ i, i < w.heap.size → Q i → ¬ ex i) : ∀ {rs : List Rx} {cs : List Value}, RfR Q w rs cs → RfR Q w' rs cs
 | [], _, h => h
 | _ :: _, _, ⟨a, b, h, h1, h2⟩ => ⟨a, b, h, h1.keep hk hx, h2.keep hk hx⟩
theorem RfR.mono {Q Q' : Nat → Prop} {w : World} (hx : ∀ i, i < w.heap.size → Q i → Q' i) : ∀ {rs : List Rx} {cs : List Value}, RfR Q w rs cs → RfR Q' w rs cs
 | [], _, h => h
 | _ :: _, _, ⟨a, b, h, h1, h2⟩ => ⟨a, b, h, h1.mono hx, h2.mono hx⟩
theorem RfR.snoc {Q : Nat → Prop} {w : World} {r : Rx} {c : List Value} (hr : RfQ Q w r c) : ∀ {rs : List Rx} {cs : List Value}, RfR Q w rs cs → RfR Q w (rs ++ [r]) (cs ++ c)
 | [], cs, h => ⟨c, [], by rw [show cs = [] from h]; simp, hr, rfl⟩
 | _ :: _, cs, ⟨a, b, h, h1, h2⟩ => ⟨a, b ++ c, by rw [h, List.append_assoc], h1, RfR.snoc hr h2⟩
theorem range_left {w : World} {g o : Nat} {a b : List Value} (h : w.rangeAt g o (a ++ b)) : w.rangeAt g o a := fun j v hv => h j v (by rw [List.getElem?_append_left (List.getElem?_eq_some_iff.1 hv).1]; exact hv)
theorem range_right {w : World} {g o : Nat} {a b : List Value} (h : w.rangeAt g o (a ++ b)) : w.rangeAt g (o + a.length) b := fun j v hv => by
 have := h (a.length + j) v (by rw [List.getElem?_append_right (by omega), Nat.add_sub_cancel_left]; exact hv)
 rwa [← Nat.add_assoc] at this

def FDead (L : List UInt8) (d i : Nat) : Prop := ∀ (lo : List Grp) (g : Grp) (f : Bool), lo.length = d → (f = true → inS REP (nx L i) = false) → Dead L i lo g f
def ODead (L : List UInt8) (d i : Nat) : Prop := ∀ lo : List Grp, lo.length = d → Dead L i lo g0 false
theorem SufP.stops {L : List UInt8} {i j : Nat} {r r' : Rx} : SufP L r i r' j → inS REP (nx L j) = false
 | .stop h => h
 | .more _ hs => hs.stops
theorem FacP.stops {L : List UInt8} {d i j : Nat} {r : Rx} : FacP L d i r j → inS REP (nx L j) = false
 | .atom _ h => h.stops
 | .group _ _ _ _ h => h.stops
theorem FDead.within {L : List UInt8} {d i : Nat} (h : nx L i = 40) (ho : ODead L (d + 1) (i + 1)) : FDead L d i := fun lo g f hd _ => (ho (lo ++ [g]) (by simp [hd])).step (step_open h lo g f)
theorem FDead.deep {L : List UInt8} {d i : Nat} (h : nx L i = 40) (hd : 50 ≤ d) : FDead L d i := fun lo g f hl _ => Dead.heavy (step_open h lo g f) (decide_eq_true (.inr (by simp; omega)))
theorem gsz_put (lo : List Grp) (g : Grp) (r : Rx) (h : 400 < r.size) : heavy lo (g.put r) = true := decide_eq_true (.inl (by rw [gsz_append, gsz_one, put_size]; omega))
theorem FDead.great {L : List UInt8} {d i j : Nat} {r : Rx} (h : nx L i = 40) (hd : d < 50) (ho : OrP L (d + 1) [] (i + 1) r j) (hc : nx L j = 41) (hr : 400 < r.size) : FDead L d i := fun lo g f hl _ => by
 obtain ⟨g1, f1, h1, h2⟩ := ho.run (lo ++ [g]) false (by simp [hl]) (by omega)
 refine (Dead.run h1.run ?_).step (step_open h lo g f)
 refine Dead.heavy (step_close hc lo g g1 f1) ?_
 rw [h2]
 exact gsz_put lo g r hr
theorem FDead.unshut {L : List UInt8} {d i : Nat} {r : Rx} (h : nx L i = 40) (hd : d < 50) (ho : OrP L (d + 1) [] (i + 1) r L.length) : FDead L d i := fun lo g f hl _ => by
 obtain ⟨g1, f1, h1, h2⟩ := ho.run (lo ++ [g]) false (by simp [hl]) (by omega)
 exact (Dead.run h1.run (Dead.open' (by simp))).step (step_open h lo g f)
theorem FDead.atom {L : List UInt8} {d i : Nat} (hi : i < L.length) (h : atomF L i = none) (h1 : nx L i ≠ 124) (h2 : nx L i ≠ 40) (h3 : nx L i ≠ 41) : FDead L d i := fun _ _ _ _ hf => Dead.atom hi h h1 h2 h3 hf
structure FacS (L : List UInt8) (d i : Nat) (r : Rx) (j : Nat) : Prop where
 ends : ∀ r' k, SufP L r j r' k → FacP L d i r' k
 run : ∀ (lo : List Grp) (g : Grp) (f : Bool), lo.length = d → RunD L i lo g f j lo (g.put r) true
theorem FacS.atom {L : List UInt8} {d i j : Nat} {s : Ws} (h : atomF L i = some (s, j)) (hd : d ≤ 50) : FacS L d i (.set s) j := ⟨fun _ _ hs => .atom h hs, fun lo g f hl => .cons (step_atom h lo g f) (by omega) (.nil _ _ _ _)⟩
theorem FacS.group {L : List UInt8} {d i j : Nat} {r : Rx} (h : nx L i = 40) (hd : d < 50) (ho : OrP L (d + 1) [] (i + 1) r j) (hc : nx L j = 41) : FacS L d i r (j + 1) := ⟨fun _ _ hs => .group h hd ho hc hs, fun lo g f hl => by
 obtain ⟨g1, f1, h1, h2⟩ := ho.run (lo ++ [g]) false (by simp [hl]) (by omega)
 refine .cons (step_open h lo g f) (by simp; omega) (h1.trans (.cons (step_close hc lo g g1 f1) (by omega) ?_))
 rw [h2]
 exact .nil _ _ _ _⟩
theorem FacS.more {L : List UInt8} {d i j : Nat} {r : Rx} (hf : FacS L d i r j) (h : inS REP (nx L j) = true) (hd : d ≤ 50) : FacS L d i (repF r (nx L j)) (j + 1) := ⟨fun _ _ hs => hf.ends _ _ (.more h hs), fun lo g f hl => (hf.run lo g f hl).trans (.cons (step_rep h lo g r) (by omega) (.nil _ _ _ _))⟩
theorem FacS.great {L : List UInt8} {d i j : Nat} {r : Rx} (hf : FacS L d i r j) (h : inS REP (nx L j) = true) (hr : 400 < (repF r (nx L j)).size) : FDead L d i := fun lo g f hl _ => Dead.run (hf.run lo g f hl).run (Dead.heavy (step_rep h lo g r) (gsz_put lo g _ hr))
structure OrS (L : List UInt8) (d i : Nat) (ways row : List Rx) (j : Nat) : Prop where
 ends : ∀ row' k, AltP L d row j row' k → (nx L k ≠ 124 → OrP L d [] i (orR (ways ++ [catR row'])) k) ∧ (nx L k = 124 → ∀ r m, OrP L d (ways ++ [catR row']) (k + 1) r m → OrP L d [] i r m)
 run : ∀ lo : List Grp, lo.length = d → ∃ f, (f = true → inS REP (nx L j) = false) ∧ RunD L i lo g0 false j lo ⟨ways, row⟩ f
theorem OrS.start (L : List UInt8) (d i : Nat) : OrS L d i [] [] i := ⟨fun _ _ h => ⟨fun hn => .last h hn, fun hb _ _ ho => .more h hb ho⟩, fun lo _ => ⟨false, fun h => (by cases h), .nil _ _ _ _⟩⟩
theorem OrS.fac {L : List UInt8} {d i j k : Nat} {ways row : List Rx} {r : Rx} (h : OrS L d i ways row j) (hf : FacP L d j r k) (hd : d ≤ 50) : OrS L d i ways (row ++ [r]) k :=
 ⟨fun _ _ ha => h.ends _ _ (.more hf ha), fun lo hl => by
  obtain ⟨f, _, hr⟩ := h.run lo hl
  exact ⟨true, fun _ => hf.stops, hr.trans (hf.run lo ⟨ways, row⟩ f hl hd)⟩⟩
theorem OrS.bar {L : List UInt8} {d i j : Nat} {ways row : List Rx} (h : OrS L d i ways row j) (hb : nx L j = 124) (hd : d ≤ 50) : OrS L d i (ways ++ [catR row]) [] (j + 1) :=
 ⟨fun _ _ ha => ⟨fun hn => (h.ends _ _ (.stop (.inr (.inl hb)))).2 hb _ _ (.last ha hn), fun hb2 r m ho => (h.ends _ _ (.stop (.inr (.inl hb)))).2 hb _ _ (.more ha hb2 ho)⟩, fun lo hl => by
  obtain ⟨f, _, hr⟩ := h.run lo hl
  exact ⟨false, fun h => (by cases h), hr.trans (.cons (step_bar hb lo _ f) (by omega) (.nil _ _ _ _))⟩⟩
theorem nx_len (L : List UInt8) : nx L L.length = 0 := by
 unfold nx
 rw [List.getElem?_eq_none (Nat.le_refl _)]; rfl
theorem OrS.last {L : List UInt8} {d i j : Nat} {ways row : List Rx} (h : OrS L d i ways row j) (hj : j = L.length ∨ nx L j = 41) : OrP L d [] i (orR (ways ++ [catR row])) j := by
 refine (h.ends row j (.stop (hj.imp id (fun h => .inr h)))).1 ?_
 rcases hj with rfl | hj
 ·rw [nx_len]; decide
 ·omega
theorem OrS.dead {L : List UInt8} {d i j : Nat} {ways row : List Rx} (h : OrS L d i ways row j) (hf : FDead L d j) : ODead L d i := fun lo hl => by
 obtain ⟨f, hp, hr⟩ := h.run lo hl
 exact Dead.run hr.run (hf lo _ f hl hp)
theorem ODead.parse {L : List UInt8} (h : ODead L 0 0) : parseF L = none := h [] rfl _
theorem OrP.close {L : List UInt8} {r : Rx} {j : Nat} (h : OrP L 0 [] 0 r j) (hj : nx L j = 41) : parseF L = none := by
 obtain ⟨g, f, h1, _⟩ := h.run [] false rfl (by omega)
 exact Dead.run h1.run (Dead.close hj) _
theorem OrP.great {L : List UInt8} {r : Rx} (h : OrP L 0 [] 0 r L.length) (hr : 400 < r.size) : parseF L = none := by
 obtain ⟨g, f, h1, h2⟩ := h.run [] false rfl (by omega)
 refine Dead.run h1.run (fun k => ?_) _
 cases k with
 | zero => rfl
 | succ k =>
  simp only [runF]
  rw [if_neg (by omega)]
  unfold finF
  rw [if_pos rfl, if_neg (by rw [h2]; omega)]
theorem nest_sz (mk : Rx → Rx → Rx) (hmk : ∀ a b, (mk a b).size = 1 + a.size + b.size) (r0 : Rx) : ∀ l : List Rx, l ≠ [] → (nest mk r0 l).size + 1 = szs l + l.length
 | [], h => absurd rfl h
 | [a], _ => by show a.size + 1 = szs [a] + 1; rw [szs_cons, szs_nil]
 | a :: b :: l, _ => by
  show (mk a (nest mk r0 (b :: l))).size + 1 = szs (a :: b :: l) + (l.length + 1 + 1)
  have := nest_sz mk hmk r0 (b :: l) (by simp)
  rw [List.length_cons] at this
  rw [hmk, szs_cons]; omega
theorem catR_sz (l : List Rx) (h : l ≠ []) : (catR l).size + 1 = szs l + l.length := nest_sz _ (fun _ _ => rfl) _ l h
theorem orR_sz (l : List Rx) (h : l ≠ []) : (orR l).size + 1 = szs l + l.length := nest_sz _ (fun _ _ => rfl) _ l h
theorem repF_le (r : Rx) (c : Nat) : (repF r c).size ≤ 2 * r.size + 2 := by
 unfold repF
 split
 ·show 1 + r.size ≤ _; omega
 ·split
  ·show 1 + r.size + (1 + r.size) ≤ _; omega
  ·show 1 + r.size + 1 ≤ _; have := r.size_pos; omega
end Go.Proofs.YtejdfpieblkapaaGreatDoor
