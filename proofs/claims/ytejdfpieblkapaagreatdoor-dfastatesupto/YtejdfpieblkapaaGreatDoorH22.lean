/- The automaton's block. -/
import Derived.Test.YtejdfpieblkapaaGreatDoorH16
import Derived.Test.YtejdfpieblkapaaGreatDoorH20
import Derived.Test.YtejdfpieblkapaaGreatDoorH6
import Derived.Test.YtejdfpieblkapaaGreatDoorH11
import Derived.Test.YtejdfpieblkapaaGreatDoorH18
import Derived.Test.YtejdfpieblkapaaGreatDoorH21
namespace Go.Proofs.YtejdfpieblkapaaGreatDoor
open Go.RowKit Go.Shelf

set_option maxRecDepth 100000
def dC (v0 v1 v2 : Value) (f : Nat → Value) (v4 : Value) : List Value := [v0, v1, v2] ++ (List.range 256).map f ++ [v4]
section
variable (v0 v1 v2 : Value) (f : Nat → Value) (v4 : Value)
theorem dC_0 : (dC v0 v1 v2 f v4)[0]? = some v0 := rfl
theorem dC_1 : (dC v0 v1 v2 f v4)[1]? = some v1 := rfl
theorem dC_2 : (dC v0 v1 v2 f v4)[2]? = some v2 := rfl
theorem dC_b {b : Nat} (hb : b < 256) : (dC v0 v1 v2 f v4)[3 + b]? = some (f b) := by
 unfold dC
 rw [List.getElem?_append_left (by simp; omega), List.getElem?_append_right (by simp)]
 simp [hb]
theorem dC_259 : (dC v0 v1 v2 f v4)[259]? = some v4 := by
 unfold dC
 have hl : ([v0, v1, v2] ++ (List.range 256).map f).length = 259 := by simp
 rw [List.getElem?_append_right (by rw [hl]; omega), hl]; rfl
theorem dC_set2 (v : Value) : (dC v0 v1 v2 f v4).set 2 v = dC v0 v1 v f v4 := rfl
theorem dC_set4 (v : Value) : (dC v0 v1 v2 f v4).set 259 v = dC v0 v1 v2 f v := by
 unfold dC
 rw [List.set_append_right _ _ (by simp)]
 simp
end
theorem d_put {w : World} {d i : Nat} {cs : List Value} (v : Value) (h : w.heap[d]? = some (.cells cs.toArray 103 (0, 0))) : (w.setCell ⟨d, i, none⟩ v).heap[d]? = some (.cells (cs.set i v).toArray 103 (0, 0)) := by
 rw [set_heap w d i _ _ _ _ h]
 simp
theorem dC_classes {w : World} {d : Nat} {v0 v1 v2 v4 : Value} {f f' : Nat → Value} (h : w.heap[d]? = some (.cells (dC v0 v1 v2 f v4).toArray 103 (0, 0))) : (w.setCells d 3 ((List.range 256).map f')).heap[d]? = some (.cells (dC v0 v1 v2 f' v4).toArray 103 (0, 0)) :=
 setCells_blk d 103 (0, 0) ((List.range 256).map f') [v0, v1, v2] ((List.range 256).map f) _ w (by simp) h
theorem dC_there {w : World} {d : Nat} {v0 v1 v2 v4 : Value} {f : Nat → Value} (h : w.heap[d]? = some (.cells (dC v0 v1 v2 f v4).toArray 103 (0, 0))) : w.there d 3 256 := fun j hj => by
 refine ⟨?_, Lib.frozen_of_heap h _⟩
 rw [Lib.cell_of_heap h]
 have := dC_b v0 v1 v2 f v4 hj
 simp only [List.getElem?_toArray]
 rw [this]; rfl
theorem dC_cell {w : World} {d : Nat} {v0 v1 v2 v4 : Value} {f : Nat → Value} (h : w.heap[d]? = some (.cells (dC v0 v1 v2 f v4).toArray 103 (0, 0))) : w.cell? ⟨d, 0, none⟩ = some v0 ∧ w.cell? ⟨d, 1, none⟩ = some v1 ∧ w.cell? ⟨d, 2, none⟩ = some v2 ∧ w.cell? ⟨d, 259, none⟩ = some v4 ∧ (∀ b < 256, w.cell? ⟨d, 3 + b, none⟩ = some (f b)) ∧ ∀ i, w.frozen? ⟨d, i, none⟩ = false := by
 refine ⟨?_, ?_, ?_, ?_, fun b hb => ?_, fun i => Lib.frozen_of_heap h i⟩
 ·rw [Lib.cell_of_heap h]; exact dC_0 v0 v1 v2 f v4
 ·rw [Lib.cell_of_heap h]; exact dC_1 v0 v1 v2 f v4
 ·rw [Lib.cell_of_heap h]; exact dC_2 v0 v1 v2 f v4
 ·rw [Lib.cell_of_heap h]; simp only [List.getElem?_toArray]; exact dC_259 v0 v1 v2 f v4
 ·rw [Lib.cell_of_heap h]; simp only [List.getElem?_toArray]; exact dC_b v0 v1 v2 f v4 hb
theorem zc103 (v0 v1 : Value) : (Tryz.zeroCells103.setIfInBounds 0 v0).setIfInBounds 1 v1 = (dC v0 v1 (.slice none 0 0) (fun _ => pv 0) (pv 0)).toArray := by kernel_rfl
def nv (cl : Nat → Nat) (r : Nat → Option Nat) (K m : Nat) : List Value := (List.range K).map fun c => match fB cl m c with
 | some b => av (r b)
 | none => pv 0
theorem nv_len (cl : Nat → Nat) (r : Nat → Option Nat) (K m : Nat) : (nv cl r K m).length = K := by simp [nv]
theorem nv_zero (cl : Nat → Nat) (r : Nat → Option Nat) (K : Nat) : nv cl r K 0 = List.replicate K (pv 0) := by
 apply List.ext_getElem?
 intro i
 unfold nv fB
 rw [List.getElem?_replicate]
 by_cases h : i < K
 ·simp [h]
 ·rw [if_neg h, List.getElem?_eq_none (by simp; omega)]
theorem nv_set (cl : Nat → Nat) (r : Nat → Option Nat) (K m : Nat) (hr : ∀ b < m, cl b = cl m → r b = r m) : (nv cl r K m).set (cl m) (av (r m)) = nv cl r K (m + 1) := by
 apply List.ext_getElem?
 intro c
 unfold nv
 rcases Nat.lt_or_ge c K with h1 | h1
 ·by_cases h : c = cl m
  ·subst h
   rw [List.getElem?_set_self (by simp; omega)]
   simp only [List.getElem?_map, List.getElem?_range h1, Option.map_some, fB_succ, if_pos]
   cases e : fB cl m (cl m) with
   | none => rfl
   | some b =>
    obtain ⟨h2, h3⟩ := fB_some e
    simp [hr b h2 h3]
  ·rw [List.getElem?_set_ne (fun e => h e.symm)]
   simp only [List.getElem?_map, List.getElem?_range h1, Option.map_some, fB_succ]
   rw [if_neg (fun e => h e.symm), Option.or_none]
 ·rw [List.getElem?_eq_none (by simp; omega), List.getElem?_eq_none (by simp; omega)]
theorem nv_get (cl : Nat → Nat) (r : Nat → Option Nat) {K c : Nat} (hc : c < K) (hs : ∃ b < 256, cl b = c) : (nv cl r K 256)[c]? = some (av (r ((fB cl 256 c).getD 0))) := by
 unfold nv
 rw [List.getElem?_map, List.getElem?_range hc, Option.map_some]
 cases e : fB cl 256 c with
 | some b => rfl
 | none =>
  obtain ⟨b, hb, hb2⟩ := hs
  exact absurd hb2 (fB_none e hb)
end Go.Proofs.YtejdfpieblkapaaGreatDoor

/- New. -/
namespace Go.Proofs.YtejdfpieblkapaaGreatDoor
open Lib renaming hid → zh
open Go.RowKit Go.Shelf

attribute [local irreducible] seen
def DnTo (rs : List Rx) (w : World) (e : Ending) (w' : World) : Prop := Below w.heap.size w w' ∧ ((e = .returned (.tuple #[.pointer none, .int .i64 3]) ∧ ∃ n, 2000 < (mst (mkM rs) n).1.length + 1) ∨ ∃ (d : Nat) (D : Df) (gs ga gn cs ca cn : Nat), e = .returned (.tuple #[ptr d, .int .i64 0]) ∧ DfAt w' d D gs ga gn cs ca cn ∧ DfS rs D)
structure StN (w0 : World) (rs : List Rx) (n : Nat) (V : Value) (ps : Nat → List Nat) (L : Nat → Bool) (w' : World) (v5 v23 v24 v25 : Value) : Prop where
 n6 : L 6 = false → w' = w0
 bl : L 8 = false → Below w0.heap.size w0 w'
 i3 : L 7 = true → L 3 = true
 i6 : L 7 = true → L 6 = true
 i7 : L 8 = true → L 7 = true
 i8 : L 9 = true → L 8 = true
 a : L 6 = true → L 8 = false → ∃ (g : Nat) (os : Nat → Option Nat) (us : List Nat), v23 = .slice (some ⟨g, 0, none⟩) n n ∧ w'.heap[g]? = some (.cells ((List.range n).map fun i => av (os i)).toArray 3 (0, 0)) ∧ w0.heap.size ≤ g ∧ (∀ q, bt us q = true ↔ ∃ (i : Nat) (l : List Nat), (lstS rs 0)[i]? = some l ∧ q ∈ l) ∧ (∀ i < n, LrA rs (ps i) us (os i)) ∧ Below w0.heap.size w0 w'
 e24 : L 7 = true → v24 = .agg (dC V v23 (.slice none 0 0) (fun _ => pv 0) (pv 0)).toArray
 e5 : L 9 = true → v5 = v25
 c : L 8 = true → ∃ (g : Nat) (os : Nat → Option Nat) (us : List Nat) (w6 : World), w' = w6.alloc (.cells (dC V v23 (.slice none 0 0) (fun _ => pv 0) (pv 0)).toArray 103) ∧ v25 = ptr w6.heap.size ∧ v23 = .slice (some ⟨g, 0, none⟩) n n ∧ w6.heap[g]? = some (.cells ((List.range n).map fun i => av (os i)).toArray 3 (0, 0)) ∧ w0.heap.size ≤ g ∧ (∀ q, bt us q = true ↔ ∃ (i : Nat) (l : List Nat), (lstS rs 0)[i]? = some l ∧ q ∈ l) ∧ (∀ i < n, LrA rs (ps i) us (os i)) ∧ Below w0.heap.size w0 w6
section
variable {w0 : World} {rs : List Rx} {n : Nat} {V : Value} {ps : Nat → List Nat} {L : Nat → Bool} {w' : World} {v5 v23 v24 v25 : Value}
theorem fls {x y : Bool} (f : x = true → y = true) (hy : y = false) : x = false := by
 cases x with
 | false => rfl
 | true => rw [f rfl] at hy; cases hy
theorem StN.n8 (h : StN w0 rs n V ps L w' v5 v23 v24 v25) (hL : L 3 = false) : L 8 = false := fls h.i7 (fls h.i3 hL)
theorem StN.m8 (h : StN w0 rs n V ps L w' v5 v23 v24 v25) (hL : L 7 = false) : L 8 = false := fls h.i7 hL
theorem StN.start (h : ∀ j, j < 10 → L j = false) : StN w0 rs n V ps L w0 v5 v23 v24 v25 := by
 have n : ∀ j, j < 10 → ∀ {p : Prop}, L j = true → p := fun j hj p e => by rw [h j hj] at e; cases e
 exact ⟨fun _ => rfl, fun _ => Below.refl _ _, n 7 (by omega), n 7 (by omega), n 8 (by omega), n 9 (by omega), n 6 (by omega), n 7 (by omega), n 9 (by omega), n 8 (by omega)⟩
theorem StN.p0 (h : StN w0 rs n V ps L w' v5 v23 v24 v25) : StN w0 rs n V ps (upd L 0) w' v5 v23 v24 v25 := ⟨h.n6, h.bl, h.i3, h.i6, h.i7, h.i8, h.a, h.e24, h.e5, h.c⟩
theorem StN.p1 (h : StN w0 rs n V ps L w' v5 v23 v24 v25) : StN w0 rs n V ps (upd L 1) w' v5 v23 v24 v25 := ⟨h.n6, h.bl, h.i3, h.i6, h.i7, h.i8, h.a, h.e24, h.e5, h.c⟩
theorem StN.p2 (h : StN w0 rs n V ps L w' v5 v23 v24 v25) : StN w0 rs n V ps (upd L 2) w' v5 v23 v24 v25 := ⟨h.n6, h.bl, h.i3, h.i6, h.i7, h.i8, h.a, h.e24, h.e5, h.c⟩
theorem StN.p3 (h : StN w0 rs n V ps L w' v5 v23 v24 v25) : StN w0 rs n V ps (upd L 3) w' v5 v23 v24 v25 := ⟨h.n6, h.bl, fun _ => rfl, h.i6, h.i7, h.i8, h.a, h.e24, h.e5, h.c⟩
theorem StN.p4 (h : StN w0 rs n V ps L w' v5 v23 v24 v25) : StN w0 rs n V ps (upd L 4) w' v5 v23 v24 v25 := ⟨h.n6, h.bl, h.i3, h.i6, h.i7, h.i8, h.a, h.e24, h.e5, h.c⟩
theorem StN.p5 (h : StN w0 rs n V ps L w' v5 v23 v24 v25) : StN w0 rs n V ps (upd L 5) w' v5 v23 v24 v25 := ⟨h.n6, h.bl, h.i3, h.i6, h.i7, h.i8, h.a, h.e24, h.e5, h.c⟩
theorem StN.s6 (h : StN w0 rs n V ps L w' v5 v23 v24 v25) (hL : L 6 = false) {w2 : World} {v : Value} (hb : ∃ (g : Nat) (os : Nat → Option Nat) (us : List Nat), v = .slice (some ⟨g, 0, none⟩) n n ∧ w2.heap[g]? = some (.cells ((List.range n).map fun i => av (os i)).toArray 3 (0, 0)) ∧ w0.heap.size ≤ g ∧ (∀ q, bt us q = true ↔ ∃ (i : Nat) (l : List Nat), (lstS rs 0)[i]? = some l ∧ q ∈ l) ∧ (∀ i < n, LrA rs (ps i) us (os i)) ∧ Below w0.heap.size w0 w2) : StN w0 rs n V ps (upd L 6) w2 v5 v v24 v25 := by
 have e7 : upd L 6 7 = false := fls h.i6 hL
 have e8 : upd L 6 8 = false := fls h.i7 e7
 have e9 : upd L 6 9 = false := fls h.i8 e8
 refine ⟨fun e => (by rw [upd_self] at e; cases e), fun _ => ?_, fun e => (by rw [e7] at e; cases e), fun e => (by rw [e7] at e; cases e), fun e => (by rw [e8] at e; cases e), fun e => (by rw [e9] at e; cases e), fun _ _ => hb, fun e => (by rw [e7] at e; cases e), fun e => (by rw [e9] at e; cases e), fun e => (by rw [e8] at e; cases e)⟩
 obtain ⟨_, _, _, _, _, _, _, _, hb⟩ := hb
 exact hb
theorem StN.s7 (h : StN w0 rs n V ps L w' v5 v23 v24 v25) (hL : L 7 = false) (l6 : L 6 = true) (l3 : L 3 = true) : StN w0 rs n V ps (upd L 7) w' v5 v23 (.agg (dC V v23 (.slice none 0 0) (fun _ => pv 0) (pv 0)).toArray) v25 := by
 have e8 : upd L 7 8 = false := fls h.i7 hL
 have e9 : upd L 7 9 = false := fls h.i8 e8
 exact ⟨h.n6, h.bl, fun _ => l3, fun _ => l6, fun _ => upd_self _ _, fun e => (by rw [e9] at e; cases e), h.a, fun _ => rfl, fun e => (by rw [e9] at e; cases e), fun e => (by rw [e8] at e; cases e)⟩
theorem StN.s8 (h : StN w0 rs n V ps L w' v5 v23 v24 v25) (hL : L 8 = false) (l7 : L 7 = true) : StN w0 rs n V ps (upd L 8) (w'.alloc (.cells (dC V v23 (.slice none 0 0) (fun _ => pv 0) (pv 0)).toArray 103)) v5 v23 v24 (ptr w'.heap.size) := by
 have e6 : upd L 8 6 = true := h.i6 l7
 have e9 : upd L 8 9 = false := fls h.i8 hL
 refine ⟨fun e => (by rw [e6] at e; cases e), fun e => (by rw [upd_self] at e; cases e), h.i3, h.i6, fun _ => l7, fun e => (by rw [e9] at e; cases e), fun _ e => (by rw [upd_self] at e; cases e), h.e24, fun e => (by rw [e9] at e; cases e), fun _ => ?_⟩
 obtain ⟨g, os, us, f1, f2, f3, f4, f5, f6⟩ := h.a (h.i6 l7) hL
 exact ⟨g, os, us, w', rfl, rfl, f1, f2, f3, f4, f5, f6⟩
theorem StN.s9 (h : StN w0 rs n V ps L w' v5 v23 v24 v25) (_hL : L 9 = false) (l8 : L 8 = true) : StN w0 rs n V ps (upd L 9) w' v25 v23 v24 v25 :=
 ⟨h.n6, h.bl, h.i3, h.i6, h.i7, fun _ => l8, h.a, h.e24, fun _ => rfl, h.c⟩
end
theorem acc6 (w2 w : World) (Bm mb mk n c5 g5 : Nat) (rs : List Rx) (xs : List Value) {mp : Nat} {cs : List Value} {v5 : Value} (h : MsAt w Bm mb rs) (hR : rs.length ≤ 1000) (hT : TabH w) (hb : Below w.heap.size w w2) (hn : n ≤ 2000) (hd : MkD w2 mk mp w.heap.size (mkM rs).nw cs v5 (mst (mkM rs) n).1)
  (hx : ∀ (i : Nat) (ws : List Nat), (List.replicate (mkM rs).nw 0 :: (mst (mkM rs) n).1)[i]? = some ws → ∃ g, xs[i]? = some (bsV g (mkM rs).nw) ∧ BsAt w2 g ws) (hc : ∀ (j : Nat) (x : Value), xs[j]? = some x → w2.cell? ⟨g5, j, none⟩ = some x)
  (hN : ∀ s ∈ (mst (mkM rs) n).1, ∀ q, bt s q = true → q < (mkM rs).N) (e5 : w2.cell? ⟨mk, 260, none⟩ = some (.slice (some ⟨g5, 0, none⟩) n c5)) (hm : Met (mkM rs) n) :
  Calls Tryz.prog 65 #[ptr mk, ptr mb] w2.drew fun e w' => ∃ (g : Nat) (os : Nat → Option Nat) (us : List Nat), e = .returned (.slice (some ⟨g, 0, none⟩) n n) ∧ w'.heap[g]? = some (.cells ((List.range n).map fun i => av (os i)).toArray 3 (0, 0)) ∧ w2.drew.heap.size ≤ g ∧
   (∀ q, bt us q = true ↔ ∃ (i : Nat) (l : List Nat), (lstS rs 0)[i]? = some l ∧ q ∈ l) ∧ (∀ i < n, LrA rs ((dfM rs n (fun _ => none)).ps i) us (os i)) ∧ Below w2.drew.heap.size w2.drew w' := by
 have hbd := (Below.refl w2.heap.size w2).drew
 refine accepted_any w2.drew Bm mb mk n c5 g5 (nwd (cntS rs)) rs _ ((h.below hb).below hbd) hR ((hT.below hb).below hbd) rfl h.le e5 (by omega) (fun i hi => ?_)
 have hget : ∃ ws, (List.replicate (mkM rs).nw 0 :: (mst (mkM rs) n).1)[i]? = some ws ∧ (dfM rs n (fun _ => none)).ps i = ws ∧ ws.length = nwd (cntS rs) ∧ ∀ q, bt ws q = true → q < cntS rs := by
  rcases i with _ | i
  ·exact ⟨_, rfl, rfl, by simp [mkM], fun q hq => by
    have e : bt (List.replicate (mkM rs).nw 0) q = false := bt_none _ _
    rw [e] at hq; cases hq⟩
  ·obtain ⟨s, hs⟩ : ∃ s, (mst (mkM rs) n).1[i]? = some s := ⟨_, List.getElem?_eq_getElem (by have := hm.all; omega)⟩
   exact ⟨s, hs, ps_succ rs n _ hs, hd.len s (List.mem_of_getElem? hs), hN s (List.mem_of_getElem? hs)⟩
 obtain ⟨ws, h1, h2, h3, h4⟩ := hget
 obtain ⟨g, h5, h6⟩ := hx i ws h1
 rw [h2]
 exact ⟨g, hc i _ h5, h6, h3, h4⟩
theorem RwD.at {w : World} {top B kn m c : Nat} {A : Option Addr} {rows : List (List (Option Nat))} (h : RwD w top B kn (.slice A m c) rows) (hm : rows.length = m) : RwsAt w A m kn (fun i k => (rows.getD i []).getD k none) := fun i hi => by
 obtain ⟨xs, h1, h2⟩ := h.row
 rw [hm] at h1
 obtain ⟨g, rfl, hcl, _, _⟩ := own_cells h1 (by omega)
 obtain ⟨row, hrow⟩ : ∃ row, rows[i]? = some row := ⟨_, List.getElem?_eq_getElem (by omega)⟩
 obtain ⟨h3, gr, cr, h4, _, h5⟩ := h2 i row hrow
 refine ⟨g, gr, cr, rfl, hcl i _ h4, fun k hk => ?_⟩
 rw [Lib.cell_of_heap h5]
 obtain ⟨o, ho⟩ : ∃ o, row[k]? = some o := ⟨_, List.getElem?_eq_getElem (by omega)⟩
 have e : (rows.getD i []).getD k none = o := by simp only [List.getD_eq_getElem?_getD, hrow, Option.getD_some, ho]
 show _ = some (av ((rows.getD i []).getD k none))
 rw [e]
 simp [ho]
def cf (rs : List Rx) (n j : Nat) : Value := if j < 256 then pv (grp (colD rs n) j) else pv 0
theorem gcs_cf (rs : List Rx) (n : Nat) : gcs (colD rs n) 256 = (List.range 256).map (cf rs n) := by
 unfold gcs
 exact List.map_congr_left (fun j _ => rfl)
theorem cf_at (rs : List Rx) (n : Nat) {j : Nat} (hj : j < 256) : cf rs n j = pv (grp (colD rs n) j) := by unfold cf; rw [if_pos hj]
attribute [local irreducible] cf
set_option maxRecDepth 100000 in
set_option maxHeartbeats 8000000 in
theorem dnew_any (w : World) (Bm mb : Nat) (rs : List Rx) (h : MsAt w Bm mb rs) (hR : rs.length ≤ 1000) (hT : TabH w) : Calls Tryz.prog 30 #[ptr mb] w (DnTo rs w) := by
 have h00 : 0 < w.heap.size := by obtain ⟨C, t, fz, h1, _⟩ := hT; exact lt_of_heap h1
 have HM := zh h; have HT := zh hT; have HR := zh hR
 have HMK := zh (maker_any w Bm mb rs h hR hT)
 clear h hT hR
 go_enter Tryz.func30, Tryz.ntmps30
 go_wp2_with fail
 refine HMK.out.mono ?_
 rintro e w1 ⟨mk, mp, gf, gh, cF, cH, AF, cs, v5, S, rfl, m1, m2, m3, m4, m5, m6, m7, m8, m9, m10, m11⟩
 have HME := zh (meet_any w1 (mkM rs) S mk mp w.heap.size gf gh cF cH AF cs v5 m1 m2 m3 m10.size h00 m4 m5 m6 m7 m8 m9 (HT.out.below m10))
 have HB1 := zh m10; have HKI := zh m11
 clear m1 m2 m3 m4 m5 m6 m7 m8 m9 m10 m11 HMK
 go_wp2_with fail
 refine HME.out.mono ?_
 rintro e w2 ⟨hb2, ⟨n, cs', v5', v6', top, rfl, hmet, hn, hs2, hd2, h62, hw2, hc2⟩ | ⟨rfl, n, hn⟩⟩
 ·have HB2 := zh (HB1.out.trans hb2)
  obtain ⟨xs5, hr5, hx5⟩ := hd2.row
  obtain ⟨A5, c5, hv5, _, _⟩ := own_form hr5
  subst hv5
  obtain ⟨g5, rfl, hcl5, _, _⟩ := own_cells hr5 (by omega)
  rw [hmet.all] at hr5 hd2
  obtain ⟨d5, _⟩ := mk_cell hd2.blk hd2.c5
  have HD2 := zh hd2; have HS2 := zh hs2; have HW2 := zh hw2; have H62 := zh h62; have HC2 := zh hc2; have HMT := zh hmet; have HX5 := zh hx5; have HCL5 := zh hcl5; have HR5 := zh hr5
  have HD5 := zh d5
  clear hd2 hs2 hw2 h62 hc2 hmet hx5 hcl5 hr5 hb2 HME d5
  go_upto_region 6 with fail
  rename_i KR hKR
  have HKR := zh hKR
  clear hKR
  have HAC := zh (acc6 w2 w Bm mb mk n c5 g5 rs xs5 HM.out HR.out HT.out HB2.out hn HD2.out HX5.out HCL5.out (fun s hs => HS2.out.stN n s hs) HD5.out HMT.out)
  refine wp_region_inv (fun L a w' => ∃ v5 v17 v18 v19 v20 v21 v22 v23 v24 v25 : Value, a = { tmps := #[ptr mb, undef, .pointer none, .int .i64 0, ptr mk, v5, undef, undef, undef, undef, ptr mb, .bool false, ptr mb, ptr mk, ptr mk, .bool true, .bool false, v17, v18, v19, v20, v21, v22, v23, v24, v25, undef, undef, undef, undef, undef, undef, undef, undef, undef, undef, undef, undef, undef, undef, undef, undef, undef, undef, undef, undef, undef, undef, undef, undef, undef, undef, undef, undef, undef, undef, undef, undef, undef, undef, undef, undef, undef, undef, undef, undef, undef, undef, undef, undef, undef, undef, undef, undef, undef, undef, undef, undef, undef, undef, undef, undef, undef, undef, undef], defers := [] } ∧ Hid (StN w2.drew rs n (.slice (some ⟨g5, 0, none⟩) n c5) (dfM rs n (fun _ => none)).ps L w' v5 v23 v24 v25) ∧ (L 0 = true → v17 = ptr mk) ∧ (L 1 = true → v18 = .pointer (some ⟨mk, 0, none⟩)) ∧ (L 2 = true → v19 = .pointer (some ⟨mk, 260, none⟩)) ∧ (L 3 = true → v20 = .slice (some ⟨g5, 0, none⟩) n c5) ∧ (L 4 = true → v21 = ptr mk) ∧ (L 5 = true → v22 = ptr mb)) (by kernel_rfl) (by kernel_rfl) ?stepQ ?finQ ?startQ
  case startQ =>
   intro L hL
   have n : ∀ j, j < 10 → ∀ {p : Prop}, L j = true → p := fun j hj p h => by rw [hL j hj] at h; cases h
   exact ⟨_, _, _, _, _, _, _, _, _, _, rfl, zh (StN.start hL), n 0 (by omega), n 1 (by omega), n 2 (by omega), n 3 (by omega), n 4 (by omega), n 5 (by omega)⟩
  case stepQ =>
   intro j o L a w' ho hL haft hI K' hK
   obtain ⟨v5, v17, v18, v19, v20, v21, v22, v23, v24, v25, rfl, HF, h0, h1, h2, h3, h4, h5⟩ := hI
   have hj : j < 10 := (Array.getElem?_eq_some_iff.1 ho).1
   rcases (show j = 0 ∨ j = 1 ∨ j = 2 ∨ j = 3 ∨ j = 4 ∨ j = 5 ∨ j = 6 ∨ j = 7 ∨ j = 8 ∨ j = 9 by omega) with rfl | rfl | rfl | rfl | rfl | rfl | rfl | rfl | rfl | rfl
   all_goals (replace ho := Option.some.inj ho; subst ho)
   ·clear haft
    go_simp
    exact hK.out _ _ ⟨_, _, _, _, _, _, _, _, _, _, rfl, zh HF.out.p0, fun _ => rfl, h1, h2, h3, h4, h5⟩
   ·have l0 := haft ⟨0, .data⟩ (by simp) rfl
    obtain rfl := h0 l0
    clear haft
    go_simp
    exact hK.out _ _ ⟨_, _, _, _, _, _, _, _, _, _, rfl, zh HF.out.p1, h0, fun _ => rfl, h2, h3, h4, h5⟩
   ·have l1 := haft ⟨1, .data⟩ (by simp) rfl
    obtain rfl := h1 l1
    clear haft
    go_simp
    exact hK.out _ _ ⟨_, _, _, _, _, _, _, _, _, _, rfl, zh HF.out.p2, h0, h1, fun _ => rfl, h3, h4, h5⟩
   ·have l2 := haft ⟨2, .data⟩ (by simp) rfl
    obtain rfl := h2 l2
    have c5' : w'.cell? ⟨mk, 260, none⟩ = some (.slice (some ⟨g5, 0, none⟩) n c5) := ((HF.out.bl (HF.out.n8 hL)).cell (p := ⟨mk, 260, none⟩) (cell_lt HD5.out)).trans HD5.out
    clear haft
    go_simp
    exact hK.out _ _ ⟨_, _, _, _, _, _, _, _, _, _, rfl, zh HF.out.p3, h0, h1, h2, fun _ => rfl, h4, h5⟩
   ·clear haft
    go_simp
    exact hK.out _ _ ⟨_, _, _, _, _, _, _, _, _, _, rfl, zh HF.out.p4, h0, h1, h2, h3, fun _ => rfl, h5⟩
   ·clear haft
    go_simp
    exact hK.out _ _ ⟨_, _, _, _, _, _, _, _, _, _, rfl, zh HF.out.p5, h0, h1, h2, h3, h4, fun _ => rfl⟩
   ·have l4 := haft ⟨4, .data⟩ (by simp) rfl
    have l5 := haft ⟨5, .data⟩ (by simp) rfl
    obtain rfl := h4 l4
    obtain rfl := h5 l5
    obtain rfl := HF.out.n6 hL
    clear haft
    go_simp
    go_at_call 65
    refine HAC.out.mono ?_
    rintro e w3 ⟨g, os, us, rfl, f1, f2, f3, f4, f5⟩
    exact hK.out _ _ ⟨_, _, _, _, _, _, _, _, _, _, rfl, zh (HF.out.s6 hL ⟨g, os, us, rfl, f1, f2, f3, f4, f5⟩), h0, h1, h2, h3, h4, h5⟩
   ·have l3 := haft ⟨3, .data⟩ (by simp) rfl
    have l6 := haft ⟨6, .data⟩ (by simp) rfl
    obtain rfl := h3 l3
    obtain ⟨g, os, us, rfl, f1, f2, f3, f4, f5⟩ := HF.out.a l6 (HF.out.m8 hL)
    have HF1 := zh (HF.out.s7 hL l6 l3)
    clear haft f1 f2 f3 f4 f5
    go_simp
    rw [zc103]
    exact hK.out _ _ ⟨_, _, _, _, _, _, _, _, _, _, rfl, HF1, h0, h1, h2, h3, h4, h5⟩
   ·have l7 := haft ⟨7, .data⟩ (by simp) rfl
    obtain rfl := HF.out.e24 l7
    have HF1 := zh (HF.out.s8 hL l7)
    clear haft
    go_simp
    exact hK.out _ _ ⟨_, _, _, _, _, _, _, _, _, _, rfl, HF1, h0, h1, h2, h3, h4, h5⟩
   ·have l8 := haft ⟨8, .data⟩ (by simp) rfl
    obtain ⟨g, os, us, w6, rfl, rfl, -⟩ := HF.out.c l8
    have HF1 := zh (HF.out.s9 hL l8)
    clear haft
    go_simp
    exact hK.out _ _ ⟨_, _, _, _, _, _, _, _, _, _, rfl, HF1, h0, h1, h2, h3, h4, h5⟩
  case finQ =>
   rintro L a w' ⟨v5, v17, v18, v19, v20, v21, v22, v23, v24, v25, rfl, HF, h0, h1, h2, h3, h4, h5⟩ hall
   obtain rfl := h0 (hall 0 (by decide))
   obtain rfl := h1 (hall 1 (by decide))
   obtain rfl := h2 (hall 2 (by decide))
   obtain rfl := h3 (hall 3 (by decide))
   obtain rfl := h4 (hall 4 (by decide))
   obtain rfl := h5 (hall 5 (by decide))
   obtain rfl := HF.out.e24 (hall 7 (by decide))
   obtain rfl := HF.out.e5 (hall 9 (by decide))
   obtain ⟨ga, os, us, w3, rfl, rfl, rfl, f1, f2, f3, f4, f5⟩ := HF.out.c (hall 8 (by decide))
   refine HKR.out _ _ ?_
   obtain ⟨d, hd⟩ : ∃ d, d = w3.heap.size := ⟨_, rfl⟩
   have hx := heap_alloc_new w3 (.cells (dC (.slice (some ⟨g5, 0, none⟩) n c5) (.slice (some ⟨ga, 0, none⟩) n n) (.slice none 0 0) (fun _ => pv 0) (pv 0)).toArray 103)
   have hal := (Below.refl w3.heap.size w3).alloc (Nat.le_refl _) (.cells (dC (.slice (some ⟨g5, 0, none⟩) n c5) (.slice (some ⟨ga, 0, none⟩) n n) (.slice none 0 0) (fun _ => pv 0) (pv 0)).toArray 103)
   rw [← hd] at hx hal ⊢
   generalize w3.alloc (.cells (dC (.slice (some ⟨g5, 0, none⟩) n c5) (.slice (some ⟨ga, 0, none⟩) n n) (.slice none 0 0) (fun _ => pv 0) (pv 0)).toArray 103) = w4 at hx hal ⊢
   have hb23 : Below w2.heap.size w2 w3 := (Kb.of_below (fun _ => False) f5).from_drew.below (Nat.le_refl _) (fun _ e => e.elim)
   have hd2 : w2.heap.size ≤ d := by rw [hd]; exact hb23.size
   have hb24 : Below w2.heap.size w2 w4 := hb23.trans (hal.mono hd2)
   have hga4 := (hal.block ga (by rw [hd]; exact lt_of_heap f1)).trans f1
   have hgad : ga < d := by rw [hd]; exact lt_of_heap f1
   have HX := zh hx; have HB4 := zh hb24; have HGA4 := zh hga4; have HUS := zh f3; have HLR := zh f4
   clear hx hal hb23 hb24 hga4 f1 f2 f3 f4 f5 HF HAC HKR hall hd
   obtain ⟨A6, c6, hv6, _, _⟩ : ∃ A c, v6' = .slice A n c ∧ n ≤ c ∧ c ≤ 9223372036854775807 := by
    obtain ⟨xs6, h1, _⟩ := HW2.out.row
    rw [mst_rows] at h1
    exact own_form h1
   subst hv6
   have hrw := HW2.out.at (mst_rows (mkM rs) n)
   have HRW : Hid (RwsAt w2 A6 n (mkM rs).kn (rowN (mkM rs) n)) := zh hrw
   clear hrw
   have hk2 : ∀ b < 256, w2.cell? ⟨mk, 2 + b, none⟩ = some (pv (knd rs b)) := fun b hb => by
    rw [Lib.cell_of_heap HD2.out.blk]
    simp only [List.getElem?_toArray]
    rw [HC2.out (2 + b) (by omega)]
    exact HKI.out b hb
   have HK2 := zh hk2
   have h261 : w2.cell? ⟨mk, 261, none⟩ = some (.slice A6 n c6) := (mk_cell HD2.out.blk H62.out).1
   have H261 := zh h261
   clear hk2 h261
   have HGR := zh (grouped_67 w4 mk (colD rs n) (fun b hb w' hbw => column_any w' mk b (knd rs b) (mkM rs).kn n c6 A6 (rowN (mkM rs) n) (cell_below hbw (cell_below HB4.out H261.out)) (cell_below hbw (cell_below HB4.out (HK2.out b hb))) hb (knd_lt rs hb) ((HRW.out.below HB4.out).below hbw) (by omega) (fun i hi q hq => by have := (rowN_lt HMT.out hi (knd_lt rs hb) hq).2; omega)))
   have hK2 : (seen (colD rs n) 256).length ≤ 256 := seen_len (colD rs n) 256
   obtain ⟨KC, hKC⟩ : ∃ KC, KC = gcs (colD rs n) 256 := ⟨_, rfl⟩
   have HKF0 : Hid (KC = (List.range 256).map (cf rs n)) := zh (hKC.trans (gcs_cf rs n))
   have HKL : Hid (KC.toArray.size = 256) := zh (by rw [hKC]; simp [gcs_len])
   have HK1 : Hid (∀ v ∈ KC, v.oneCell' = true) := zh (by rw [hKC]; exact gcs_one (colD rs n) 256)
   rw [← hKC] at HGR
   clear hKC
   obtain ⟨K, hK⟩ : ∃ K, K = (seen (colD rs n) 256).length := ⟨_, rfl⟩
   have HKE := zh hK
   rw [← hK] at HGR hK2
   clear hK
   go_upto_region 8 with (first
    | (go_at_call 66; refine HGR.out.mono ?_; rintro e w5 ⟨rfl, hb5⟩; have HB5 := zh hb5; have HX5' := zh ((hb5.block d (lt_of_heap HX.out)).trans HX.out); clear hb5)
    | (refine wpList_store_mid rfl 101 _ _ rfl d 3 KC.toArray rfl rfl (by rw [HKL.out]; exact dC_there HX5'.out) (by rw [Tryz.size101, HKL.out]) (all_oneCell_toArray HK1.out) ?_; have hb6 : (w5.setCells d 3 KC).heap[d]? = some (.cells (dC (.slice (some ⟨g5, 0, none⟩) n c5) (.slice (some ⟨ga, 0, none⟩) n n) (.slice none 0 0) (cf rs n) (pv 0)).toArray 103 (0, 0)) := (by rw [HKF0.out]; exact dC_classes HX5'.out); have HX6 := zh hb6; obtain ⟨_, _, _, d259, _, dfz⟩ := dC_cell hb6; have f259 := dfz 259; clear dfz hb6))
   have hkc6 := Kb.setCell (w5.setCells d 3 KC) ⟨d, 259, none⟩ (pv K)
   have hx7 := d_put (i := 259) (pv K) HX6.out
   rw [dC_set4] at hx7
   have hks := kb_setCells d KC 3 w5
   have HX7 := zh hx7
   have HB7 := zh (HB4.out.trans (((HB5.out.mono (show w2.heap.size ≤ w4.heap.size from HB4.out.size)).trans (hks.below (Nat.le_trans HB4.out.size HB5.out.size) (fun i e => by rw [show i = d from e]; exact hd2))).trans (hkc6.below (Nat.le_trans (Nat.le_trans HB4.out.size HB5.out.size) hks.size) (fun i e => by rw [show i = d from e]; exact hd2))))
   have HGA7 := zh ((hkc6.block ga (by
    have := HB5.out.size; have := hks.size; have := lt_of_heap HGA4.out; omega) (fun e => by have e : ga = d := e; omega)).trans ((hks.block ga (by
    have := HB5.out.size; have := lt_of_heap HGA4.out; omega) (fun e => by have e : ga = d := e; omega)).trans ((HB5.out.block ga (lt_of_heap HGA4.out)).trans HGA4.out)))
   clear hkc6 hx7 hks d259 f259 HX6 HX5' HB5 HGR HGA4 HX HB4
   generalize (w5.setCells d 3 KC).setCell ⟨d, 259, none⟩ (pv K) = w7 at *
   obtain ⟨i0, hi0, hz0, hz1, hz2⟩ := info_parts Tryz.info3
   have HI := zh hi0; have HZ0 := zh hz0; have HZ1 := zh hz1; have HZ2 := zh hz2
   obtain ⟨j0, hj0, hy0, hy1, hy2⟩ := info_parts Tryz.info32
   have HJ := zh hj0; have HY0 := zh hy0; have HY1 := zh hy1; have HY2 := zh hy2
   clear hi0 hz0 hz1 hz2 hj0 hy0 hy1 hy2
   have e261 := cell_below HB7.out H261.out
   obtain ⟨H7, hH7⟩ : ∃ H7, H7 = w7.heap.size := ⟨_, rfl⟩
   have hdH : d < H7 := by rw [hH7]; exact lt_of_heap HX7.out
   have HH7 := zh hH7
   clear hH7
   go_wp2_with fail
   go_loopw [43] (fun i wr => ∃ (k : Nat) (v2 : Value) (xs : List Value), k ≤ n ∧ i = .int .i64 k ∧ Hid (wr.heap[d]? = some (.cells (dC (.slice (some ⟨g5, 0, none⟩) n c5) (.slice (some ⟨ga, 0, none⟩) n n) v2 (cf rs n) (pv K)).toArray 103 (0, 0))) ∧ Hid (wr.ownsRow H7 32 1 v2 k xs) ∧ Hid (∀ j < k, ∃ gr, xs[j]? = some (.slice (some ⟨gr, 0, none⟩) K K) ∧ wr.heap[gr]? = some (.cells (nv (grp (colD rs n)) (fun b => rowN (mkM rs) n j (knd rs b)) K 256).toArray 3 (0, 0))) ∧ Hid (Kb (fun i => i = d) w7 wr)) (fun i _ => n - (intOf i).toNat)
   case atStart => exact ⟨0, _, _, Nat.zero_le _, rfl, HX7, zh (World.ownsRow_nil _ _ _ _), zh (fun j h => by omega), zh (Kb.refl _ _)⟩
   case round =>
    clear HX7 e261
    obtain ⟨k, v2, xs, hk, rfl, HX, HO, HXS, HK⟩ := hrel
    obtain ⟨A2, c2, rfl, hac, hcm⟩ := own_form HO.out
    have hsz7 := HK.out.size
    have hdl := lt_of_heap HX.out
    have hb7 := HB7.out.size
    have HBR := zh (show Below w2.heap.size w2 wr from HB7.out.trans (HK.out.below hb7 (fun i e => by rw [show i = d from e]; exact hd2)))
    by_cases hlt : k < n
    ·have hki : (k : Int) < n := by omega
     have hk0 : (0 : Int) ≤ k := by omega
     obtain ⟨g6, gr6, cr6, rfl, r1, r2⟩ := HRW.out k hlt
     have r1' := cell_below HBR.out r1
     have R2 := zh r2
     obtain ⟨_, _, _, d259, _, _⟩ := dC_cell HX.out
     clear r1 r2
     go_upto_region 12 with (at_make; refine wpList_make_row _ rfl _ _ 32 rfl 3 i0 (.int .i64 0) Tryz.underlying32 HI.out HZ0.out HZ1.out rfl .i64 .i64 K rfl rfl (by rw [HZ2.out]; omega) (by omega) ?_)
     obtain ⟨g9, hg9⟩ : ∃ g9, g9 = wr.heap.size := ⟨_, rfl⟩
     have hal := (Below.refl wr.heap.size wr).alloc (Nat.le_refl _) (.cells (madeCells #[.int .i64 0] K) 3)
     have hrw := heap_alloc_new wr (.cells (madeCells #[.int .i64 0] K) 3)
     rw [show madeCells #[.int .i64 0] K = (nv (grp (colD rs n)) (fun b => rowN (mkM rs) n k (knd rs b)) K 0).toArray by
      apply Array.toList_inj.1
      rw [toList_madeCells_one, nv_zero]; rfl] at hal hrw ⊢
     rw [← hg9] at hrw ⊢
     generalize wr.alloc (.cells (nv (grp (colD rs n)) (fun b => rowN (mkM rs) n k (knd rs b)) K 0).toArray 3) = w8 at hal hrw ⊢
     have HAL := zh hal; have HRG := zh hrw; have HG9 := zh hg9
     have hdg : d < g9 := by omega
     have HX8 := zh ((hal.block d hdl).trans HX.out)
     have HB8 := zh (HBR.out.trans (hal.mono HBR.out.size))
     clear hal hrw hg9 r1' d259
     go_wp2_with fail
     go_loopw [52] (fun i wr => ∃ b : Nat, b ≤ 256 ∧ i = .int .i64 b ∧ Hid (wr.heap[g9]? = some (.cells (nv (grp (colD rs n)) (fun b => rowN (mkM rs) n k (knd rs b)) K b).toArray 3 (0, 0))) ∧ Hid (Kb (fun i => i = g9) w8 wr)) (fun i _ => 256 - (intOf i).toNat)
     case atStart => exact ⟨0, by omega, rfl, HRG, zh (Kb.refl _ _)⟩
     case round =>
      clear HRG
      obtain ⟨b, hb, rfl, HRG, HKG⟩ := hrel
      have HXd := zh ((HKG.out.block d (lt_of_heap HX8.out) (fun e => by have e : d = g9 := e; omega)).trans HX8.out)
      by_cases hlb : b < 256
      ·have hbi : (b : Int) < 256 := by omega
       have hb0 : (0 : Int) ≤ b := by omega
       have HBb := zh (show Below w2.heap.size w2 wr from HB8.out.trans (HKG.out.below HB8.out.size (fun i e => by rw [show i = g9 from e]; omega)))
       obtain ⟨_, _, _, _, dcl, _⟩ := dC_cell HXd.out
       have dcb := dcl b hlb
       rw [cf_at rs n hlb] at dcb
       have mkb := cell_below HBb.out (HK2.out b hlb)
       have hkl := knd_lt rs hlb
       have rb := cell_below HBb.out (R2.out (knd rs b) hkl)
       have hgl : grp (colD rs n) b < K := by rw [HKE.out]; exact grp_lt (colD rs n) hlb
       have hnl := nv_len (grp (colD rs n)) (fun b => rowN (mkM rs) n k (knd rs b)) K b
       have hset := nv_set (grp (colD rs n)) (fun b => rowN (mkM rs) n k (knd rs b)) K b (fun b' hb' e => col_same HMT.out (by omega) (by omega) hlb ((grp_eq (colD rs n) (by omega) hlb).1 e) k hlt)
       have cg : wr.cell? ⟨g9, grp (colD rs n) b, none⟩ = some ((nv (grp (colD rs n)) (fun b => rowN (mkM rs) n k (knd rs b)) K b)[grp (colD rs n) b]'(by rw [hnl]; exact hgl)) := by
        rw [Lib.cell_of_heap HRG.out]
        simp [hnl, hgl]
       have fg := Lib.frozen_of_heap HRG.out (grp (colD rs n) b)
       generalize (nv (grp (colD rs n)) (fun b => rowN (mkM rs) n k (knd rs b)) K b)[grp (colD rs n) b]'(by rw [hnl]; exact hgl) = vg at cg
       have hs2 : ∀ v, (wr.setCell ⟨g9, grp (colD rs n) b, none⟩ v).heap[g9]? = some (.cells ((nv (grp (colD rs n)) (fun b => rowN (mkM rs) n k (knd rs b)) K b).set (grp (colD rs n) b) v).toArray 3 (0, 0)) := fun v => by
        rw [set_heap wr g9 _ _ _ _ _ HRG.out]; simp
       have hs3 := hs2 (av (rowN (mkM rs) n k (knd rs b)))
       rw [hset] at hs3
       have hkc := Kb.setCell wr ⟨g9, grp (colD rs n) b, none⟩ (av (rowN (mkM rs) n k (knd rs b)))
       obtain ⟨kd, hkd⟩ : ∃ kd, kd = knd rs b := ⟨_, rfl⟩
       obtain ⟨cd, hcd⟩ : ∃ cd, cd = grp (colD rs n) b := ⟨_, rfl⟩
       obtain ⟨z, hz⟩ : ∃ z : Int, av (rowN (mkM rs) n k (knd rs b)) = .int .i64 z := by cases rowN (mkM rs) n k (knd rs b) <;> exact ⟨_, rfl⟩
       rw [hz] at rb hs3 hkc
       rw [← hkd] at mkb hkl rb
       rw [← hcd] at dcb hgl cg fg hs3 hkc
       have HS3 := zh hs3; have HKC := zh (HKG.out.trans hkc (fun _ _ h => h)).drew
       have hkdi : (kd : Int) < (mkM rs).kn := by omega
       have hkd0 : (0 : Int) ≤ kd := by omega
       have hcdi : (cd : Int) < K := by omega
       have hcd0 : (0 : Int) ≤ cd := by omega
       clear hkd hcd hz hset hs2 hs3 hkc hnl dcl
       go_wp2_with fail
       go_region
       go_wp2_with fail
       go_roundw
       case rel => exact ⟨b + 1, by omega, by go_num, HS3, HKC⟩
       case measure => simp [intOf]; omega
      ·obtain rfl : b = 256 := by omega
       have hxs : xs.length = k := by have := HO.out.1; simpa using this
       have hoR := own_kb (own_kb HO.out (Kb.of_below (fun _ => False) HAL.out) (fun _ _ h => h)) HKG.out (fun g hg e => by
        have e : g = g9 := e
        obtain ⟨_, c', h⟩ := own_ty HO.out hg
        have := lt_of_heap h
        have := HG9.out
        omega)
       have HOR := zh hoR
       have hszr : H7 ≤ wr.heap.size := by have := HKG.out.size; have := HAL.out.size; have := HH7.out; omega
       obtain ⟨_, _, d2, _, _, dfz⟩ := dC_cell HXd.out
       clear hoR dfz
       go_upto_region 18 with (at_builtin; refine wpList_append_lies _ rfl _ _ 77 rfl H7 32 j0 _ 1 24 Tryz.underlying77 HJ.out HY0.out HY1.out HY2.out rfl (by omega) (.slice A2 k c2) k xs rfl (HOR.out.alloc _) ⟨wr.heap.size, 0, none⟩ 1 1 [.slice (some ⟨g9, 0, none⟩) K K] rfl rfl (World.news_of_block (cs := #[.slice (some ⟨g9, 0, none⟩) K K]) (t := 32) (fr := (0, 0)) (heap_alloc_new wr _)) (by simp [Value.oneCell']) (by omega) (by unfold maxLen; omega) (by omega) (by simp; omega) (wr.heap.size + 1) (by simp) ?_; intro gg cap6 w6 hown6 hgrow6 hat6 hlt6; have hg6 := grown_kb hgrow6; have HX6 := zh ((hg6.block d (lt_of_heap HXd.out) (fun e => by have := (own_ty HOR.out e.symm).1; omega)).trans HXd.out); have HG6 := zh hg6; have HOW6 := zh hown6; obtain ⟨_, _, d2', _, _, dfz⟩ := dC_cell HX6.out; have f2' := dfz 2; clear hg6 hown6 hgrow6 hat6 hlt6 d2 dfz)
       obtain ⟨vn, hvn⟩ : ∃ vn, vn = Value.slice (some ⟨gg, 0, none⟩) (k + 1) cap6 := ⟨_, rfl⟩
       rw [← hvn] at HOW6 ⊢
       have hkc := Kb.setCell w6 ⟨d, 2, none⟩ vn
       have hx8 := d_put (i := 2) vn HX6.out
       rw [dC_set2] at hx8
       have ho8 := own_kb HOW6.out hkc (fun g hg e => by have e : g = d := e; have := (own_ty HOW6.out hg).1; omega)
       have hty : ∀ (g : Nat) (c : Array Value), wr.heap[g]? = some (.cells c 3 (0, 0)) → (w6.setCell ⟨d, 2, none⟩ vn).heap[g]? = some (.cells c 3 (0, 0)) := fun g c hg => by
        have h6 := (HG6.out.block g (lt_of_heap hg) (fun e => by
         obtain ⟨_, c', h⟩ := own_ty HOR.out e.symm
         rw [hg] at h
         injection h with h; injection h with _ h; cases h)).trans hg
        exact (hkc.block g (lt_of_heap h6) (fun e => by
         rw [show g = d from e, HX6.out] at h6
         injection h6 with h6; injection h6 with _ h6; cases h6)).trans h6
       have HX8' := zh hx8; have HO8 := zh ho8
       have HXS8 : Hid (∀ j < k + 1, ∃ gr, (xs ++ [Value.slice (some ⟨g9, 0, none⟩) K K])[j]? = some (.slice (some ⟨gr, 0, none⟩) K K) ∧ (w6.setCell ⟨d, 2, none⟩ vn).heap[gr]? = some (.cells (nv (grp (colD rs n)) (fun b => rowN (mkM rs) n j (knd rs b)) K 256).toArray 3 (0, 0))) := zh (fun j hj => by
        rcases Nat.lt_or_ge j k with hjk | hjk
        ·obtain ⟨gr, h1, h2⟩ := HXS.out j hjk
         refine ⟨gr, by rw [List.getElem?_append_left (by omega)]; exact h1, hty gr _ ?_⟩
         have h3 := (HAL.out.block gr (lt_of_heap h2)).trans h2
         exact (HKG.out.block gr (lt_of_heap h3) (fun e => by have e : gr = g9 := e; have := lt_of_heap h2; have := HG9.out; omega)).trans h3
        ·obtain rfl : j = k := by omega
         exact ⟨g9, by rw [List.getElem?_append_right (by omega), hxs, Nat.sub_self]; rfl, hty g9 _ HRG.out⟩)
       have HK8 : Hid (Kb (fun i => i = d) w7 (w6.setCell ⟨d, 2, none⟩ vn)) := zh (((((HK.out.trans (Kb.of_below (fun i => i = d) HAL.out) (fun _ _ h => h)).trans HKG.out (fun i hi e => by
        have e : i = g9 := e
        have := HG9.out
        omega)).trans HG6.out (fun i hi e => by
        have := (own_ty HOR.out e.symm).1
        have := HH7.out
        omega)).trans hkc (fun _ _ h => h)))
       clear hkc hx8 ho8 hty hvn HOW6 HG6 HX6 HOR HRG HKG HXd HX HO HXS HK HAL HX8 d2' f2'
       generalize w6.setCell ⟨d, 2, none⟩ vn = w9 at *
       go_wp2_with fail
       refine ⟨⟨k + 1, vn, _, by omega, by go_num, HX8', HO8, HXS8, HK8⟩, ?_⟩
       simp [intOf]; omega
    ·obtain rfl : n = k := by omega
     have hn0 : 0 < n := by have := HMT.out.all; omega
     obtain ⟨gn, rfl, hcn, _, _⟩ := own_cells HO.out hn0
     have HCN := zh hcn
     clear hcn
     go_wp2_with fail
     go_ret2
     obtain ⟨q0, q1, q2, q3, q4, _⟩ := dC_cell HX.out
     have hga := (HK.out.block ga (lt_of_heap HGA7.out) (fun e => by have e : ga = d := e; omega)).trans HGA7.out
     refine ⟨HB2.out.trans (HBR.out.mono HB2.out.size), .inr ⟨d, dfM rs n os, g5, ga, gn, c5, n, c2, rfl, ⟨by show n ≤ 100000; omega, by show (seen (colD rs n) 256).length ≤ 256; rw [← HKE.out]; exact hK2, fun b hb => grp_lt (colD rs n) hb, q0, q1, q2, fun b hb => by rw [q4 b hb, cf_at rs n hb]; rfl, by rw [q3, HKE.out]; rfl, fun i hi => ?_, fun i hi => ?_, fun i hi => ?_⟩, dfM_ok rs n os us HMT.out hn HUS.out HLR.out⟩⟩
     ·have hi : i < n := hi
      rw [Lib.cell_of_heap hga]
      show ((List.range n).map fun i => av (os i)).toArray[i]? = some (av (os i))
      simp [hi]
     ·have hi : i < n := hi
      obtain ⟨gr, h1, h2⟩ := HXS.out i hi
      have hKd : (dfM rs n os).K = K := HKE.out.symm
      rw [hKd]
      refine ⟨gr, K, HCN.out i _ h1, fun c hc => ?_⟩
      rw [Lib.cell_of_heap h2]
      simp only [List.getElem?_toArray]
      exact nv_get (grp (colD rs n)) (fun b => rowN (mkM rs) n i (knd rs b)) hc (grp_surj (colD rs n) (by rw [← HKE.out]; exact hc))
     ·have hi : i < n := hi
      have hget : ∃ ws, (List.replicate (mkM rs).nw 0 :: (mst (mkM rs) n).1)[i]? = some ws ∧ (dfM rs n os).ps i = ws ∧ ws.length = nwd (cntS rs) := by
       rcases i with _ | i
       ·exact ⟨_, rfl, rfl, by simp [mkM]⟩
       ·obtain ⟨s, hs⟩ : ∃ s, (mst (mkM rs) n).1[i]? = some s := ⟨_, List.getElem?_eq_getElem (by have := HMT.out.all; omega)⟩
        exact ⟨s, hs, ps_succ rs n _ hs, HD2.out.len s (List.mem_of_getElem? hs)⟩
      obtain ⟨ws, h1, h2, h3⟩ := hget
      obtain ⟨g, h5, h6⟩ := HX5.out i ws h1
      rw [h2]
      exact ⟨g, cell_below HBR.out (HCL5.out i _ h5), h6.below HBR.out, h3⟩
 ·have HB2 := zh (HB1.out.trans hb2); have HNN := zh hn
  clear hn hb2 HME
  go_wp2_with fail
  go_ret2
  exact ⟨HB2.out, .inl ⟨rfl, n, HNN.out⟩⟩
end Go.Proofs.YtejdfpieblkapaaGreatDoor
