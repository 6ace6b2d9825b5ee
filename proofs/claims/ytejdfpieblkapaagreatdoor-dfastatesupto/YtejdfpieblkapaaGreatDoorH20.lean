/- The maker's block. -/
import Derived.Test.YtejdfpieblkapaaGreatDoorH6
import Derived.Test.YtejdfpieblkapaaGreatDoorG36b
import Derived.Test.YtejdfpieblkapaaGreatDoorG3
import Derived.Test.YtejdfpieblkapaaGreatDoorH1
import Derived.Test.YtejdfpieblkapaaGreatDoorRi
namespace Go.Proofs.YtejdfpieblkapaaGreatDoor
open Go.RowKit Go.Shelf

set_option maxRecDepth 100000
def mkC (gf nw mp gst : Nat) (v1 : Value) (f : Nat → Value) (v2 : Value) : List Value := [bsV gf nw, v1] ++ (List.range 256).map f ++ [v2, .map (some mp), .slice (some ⟨gst, 0, none⟩) 1 1, .slice none 0 0]
section
variable (gf nw mp gst : Nat) (v1 : Value) (f : Nat → Value) (v2 : Value)
theorem mkC_0 : (mkC gf nw mp gst v1 f v2)[0]? = some (bsV gf nw) := rfl
theorem mkC_1 : (mkC gf nw mp gst v1 f v2)[1]? = some v1 := rfl
theorem mkC_b {b : Nat} (hb : b < 256) : (mkC gf nw mp gst v1 f v2)[2 + b]? = some (f b) := by
 unfold mkC
 rw [List.getElem?_append_left (by simp; omega), List.getElem?_append_right (by simp)]
 simp [hb]
theorem mkC_end {i : Nat} : (mkC gf nw mp gst v1 f v2)[258 + i]? = [v2, Value.map (some mp), .slice (some ⟨gst, 0, none⟩) 1 1, .slice none 0 0][i]? := by
 unfold mkC
 have hl : ([bsV gf nw, v1] ++ (List.range 256).map f).length = 258 := by simp
 rw [List.getElem?_append_right (by rw [hl]; omega), hl, Nat.add_sub_cancel_left]
theorem mkC_258 : (mkC gf nw mp gst v1 f v2)[258]? = some v2 := mkC_end gf nw mp gst v1 f v2 (i := 0)
theorem mkC_259 : (mkC gf nw mp gst v1 f v2)[259]? = some (.map (some mp)) := mkC_end gf nw mp gst v1 f v2 (i := 1)
theorem mkC_260 : (mkC gf nw mp gst v1 f v2)[260]? = some (.slice (some ⟨gst, 0, none⟩) 1 1) := mkC_end gf nw mp gst v1 f v2 (i := 2)
theorem mkC_261 : (mkC gf nw mp gst v1 f v2)[261]? = some (.slice none 0 0) := mkC_end gf nw mp gst v1 f v2 (i := 3)
theorem mkC_set1 (v : Value) : (mkC gf nw mp gst v1 f v2).set 1 v = mkC gf nw mp gst v f v2 := rfl
theorem mkC_set2 (v : Value) : (mkC gf nw mp gst v1 f v2).set 258 v = mkC gf nw mp gst v1 f v := by
 unfold mkC
 rw [List.set_append_right _ _ (by simp)]
 simp
end
theorem setCells_blk (g T : Nat) (fz : Nat × Nat) : ∀ (vs pre old post : List Value) (w : World), old.length = vs.length → w.heap[g]? = some (.cells (pre ++ old ++ post).toArray T fz) → (w.setCells g pre.length vs).heap[g]? = some (.cells (pre ++ vs ++ post).toArray T fz) := by
 intro vs
 induction vs with
 | nil => intro pre old post w hl h; have : old = [] := List.length_eq_zero_iff.1 (by simpa using hl); subst this; simpa [World.setCells] using h
 | cons v vs ih =>
  intro pre old post w hl h
  cases old with
  | nil => simp at hl
  | cons c old =>
   have h1 := set_heap w g pre.length _ v _ _ h
   have h2 : (pre ++ c :: old ++ post).toArray.set! pre.length v = ((pre ++ [v]) ++ old ++ post).toArray := by simp
   rw [h2] at h1
   have h3 := ih (pre ++ [v]) old post _ (by simpa using hl) h1
   show ((w.setCell ⟨g, pre.length, none⟩ v).setCells g (pre.length + 1) vs).heap[g]? = _
   rw [List.length_append] at h3
   simpa using h3
theorem mkC_kinds {w : World} {mk gf nw mp gst : Nat} {v1 v2 : Value} {f f' : Nat → Value} (h : w.heap[mk]? = some (.cells (mkC gf nw mp gst v1 f v2).toArray 108 (0, 0))) : (w.setCells mk 2 ((List.range 256).map f')).heap[mk]? = some (.cells (mkC gf nw mp gst v1 f' v2).toArray 108 (0, 0)) :=
 setCells_blk mk 108 (0, 0) ((List.range 256).map f') [bsV gf nw, v1] ((List.range 256).map f) _ w (by simp) h
theorem mkC_there {w : World} {mk gf nw mp gst : Nat} {v1 v2 : Value} {f : Nat → Value} (h : w.heap[mk]? = some (.cells (mkC gf nw mp gst v1 f v2).toArray 108 (0, 0))) : w.there mk 2 256 := fun j hj => by
 refine ⟨?_, Lib.frozen_of_heap h _⟩
 rw [Lib.cell_of_heap h]
 have := mkC_b gf nw mp gst v1 f v2 hj
 simp only [List.getElem?_toArray]
 rw [this]; rfl
theorem mkC_range {w : World} {mk gf nw mp gst : Nat} {v1 v2 : Value} {f : Nat → Value} (h : w.heap[mk]? = some (.cells (mkC gf nw mp gst v1 f v2).toArray 108 (0, 0))) : w.rangeAt mk 2 ((List.range 256).map f) := fun j v hj => by
 rw [Lib.cell_of_heap h]
 have hl := (List.getElem?_eq_some_iff.1 hj).1
 simp at hl
 simp only [List.getElem?_toArray]
 rw [mkC_b gf nw mp gst v1 f v2 hl]
 simpa [hl] using hj
theorem zc108 (gf nw mp gst : Nat) : ((Tryz.zeroCells108.setIfInBounds 0 (bsV gf nw)).setIfInBounds 259 (.map (some mp))).setIfInBounds 260 (.slice (some ⟨gst, 0, none⟩) 1 1) = (mkC gf nw mp gst (.slice none 0 0) (fun _ => pv 0) (.slice none 0 0)).toArray := by kernel_rfl
def hcs (gb : Nat → Nat) (nw b : Nat) : List Value := (List.range 256).map fun j => if j < b then bsV (gb j) nw else .slice none 0 0
theorem hcs_len (gb : Nat → Nat) (nw b : Nat) : (hcs gb nw b).length = 256 := by simp [hcs]
theorem zc153 (gb : Nat → Nat) (nw : Nat) : Tryz.zeroCells153 = (hcs gb nw 0).toArray := by
 have h : Tryz.zeroCells153 = (List.replicate 256 (Value.slice none 0 0)).toArray := by kernel_rfl
 rw [h]
 congr 1
theorem hcs_set (gb : Nat → Nat) (nw b g : Nat) (hb : b < 256) : (hcs gb nw b).set b (bsV g nw) = hcs (fun j => if j = b then g else gb j) nw (b + 1) := by
 apply List.ext_getElem?
 intro i
 unfold hcs
 rcases Nat.lt_or_ge i 256 with h1 | h1
 ·by_cases h : i = b
  ·subst h
   rw [List.getElem?_set_self (by simp; omega)]
   simp [h1]
  ·rw [List.getElem?_set_ne (fun e => h e.symm)]
   simp only [List.getElem?_map, List.getElem?_range h1, Option.map_some]
   by_cases h2 : i < b
   ·rw [if_pos h2, if_pos (by omega), if_neg h]
   ·rw [if_neg h2, if_neg (by omega)]
 ·rw [List.getElem?_eq_none (by simp; omega), List.getElem?_eq_none (by simp; omega)]
theorem hcs_get (gb : Nat → Nat) (nw : Nat) {b j : Nat} (hj : j < b) (hb : b ≤ 256) : (hcs gb nw b)[j]? = some (bsV (gb j) nw) := by
 unfold hcs
 rw [List.getElem?_map, List.getElem?_range (by omega), Option.map_some, if_pos hj]
theorem hcs_cell {w : World} {ga nw b : Nat} {gb : Nat → Nat} (h : w.heap[ga]? = some (.cells (hcs gb nw b).toArray 153 (0, 0))) {i : Nat} (hi : i < 256) : ∃ v, w.cell? ⟨ga, i, none⟩ = some v ∧ w.frozen? ⟨ga, i, none⟩ = false := by
 refine ⟨(hcs gb nw b)[i]'(by rw [hcs_len]; exact hi), ?_, Lib.frozen_of_heap h i⟩
 rw [Lib.cell_of_heap h]
 simp [hcs_len, hi]
theorem hcs_at {w : World} {ga nw b j : Nat} {gb : Nat → Nat} (h : w.heap[ga]? = some (.cells (hcs gb nw b).toArray 153 (0, 0))) (hj : j < b) (hb : b ≤ 256) : w.cell? ⟨ga, j, none⟩ = some (bsV (gb j) nw) := by
 rw [Lib.cell_of_heap h]
 simp only [List.getElem?_toArray]
 exact hcs_get gb nw hj hb
structure Nm (w wr : World) (gf nw mp gst g0 mk : Nat) (v1 : Value) (f : Nat → Value) (v2 : Value) : Prop where
 blk : wr.heap[mk]? = some (.cells (mkC gf nw mp gst v1 f v2).toArray 108 (0, 0))
 map : MpAt wr mp StrK (fun _ => none) 0
 st : wr.heap[gst]? = some (.cells #[bsV g0 nw] 87 (0, 0))
 z0 : BsAt wr g0 (List.replicate nw 0)
 bl : Below w.heap.size w wr
 lo : w.heap.size ≤ gf ∧ gf < mp ∧ mp < g0 ∧ g0 < gst ∧ gst < mk
theorem Nm.keep {w wr w' : World} {gf nw mp gst g0 mk : Nat} {v1 v2 : Value} {f : Nat → Value} {ex : Nat → Prop} (h : Nm w wr gf nw mp gst g0 mk v1 f v2) (hk : Kb ex wr w') (hx : ∀ i, ex i → i = gf ∨ mk < i) : Nm w w' gf nw mp gst g0 mk v1 f v2 where
 blk := (hk.block mk (lt_of_heap h.blk) (fun e => by have := hx _ e; have := h.lo; omega)).trans h.blk
 map := h.map.keep (hk.block mp h.map.lt (fun e => by have := hx _ e; have := h.lo; omega)) (fun _ h => h)
 st := (hk.block gst (lt_of_heap h.st) (fun e => by have := hx _ e; have := h.lo; omega)).trans h.st
 z0 := h.z0.keep hk (fun e => by have := hx _ e; have := h.lo; omega)
 bl := h.bl.trans (hk.below h.bl.size (fun i e => by have := hx _ e; have := h.lo; omega))
 lo := h.lo
theorem Nm.below {w wr w' : World} {gf nw mp gst g0 mk : Nat} {v1 v2 : Value} {f : Nat → Value} (h : Nm w wr gf nw mp gst g0 mk v1 f v2) (hb : Below wr.heap.size wr w') : Nm w w' gf nw mp gst g0 mk v1 f v2 := h.keep (Kb.of_below (fun _ => False) hb) (fun _ e => e.elim)
theorem Nm.put {w wr w' : World} {gf nw mp gst g0 mk : Nat} {v1 v2 v1' v2' : Value} {f f' : Nat → Value} (h : Nm w wr gf nw mp gst g0 mk v1 f v2) (hk : Kb (fun i => i = mk) wr w') (hb : w'.heap[mk]? = some (.cells (mkC gf nw mp gst v1' f' v2').toArray 108 (0, 0))) : Nm w w' gf nw mp gst g0 mk v1' f' v2' where
 blk := hb
 map := h.map.keep (hk.block mp h.map.lt (fun e => by have e : mp = mk := e; have := h.lo; omega)) (fun _ h => h)
 st := (hk.block gst (lt_of_heap h.st) (fun e => by have e : gst = mk := e; have := h.lo; omega)).trans h.st
 z0 := h.z0.keep hk (fun e => by have e : g0 = mk := e; have := h.lo; omega)
 bl := h.bl.trans (hk.below h.bl.size (fun i e => by have e : i = mk := e; have := h.lo; omega))
 lo := h.lo
theorem Nm.cell {w wr : World} {gf nw mp gst g0 mk : Nat} {v1 v2 : Value} {f : Nat → Value} (h : Nm w wr gf nw mp gst g0 mk v1 f v2) : wr.cell? ⟨mk, 0, none⟩ = some (bsV gf nw) ∧ wr.cell? ⟨mk, 1, none⟩ = some v1 ∧ wr.cell? ⟨mk, 258, none⟩ = some v2 ∧ ∀ i, wr.frozen? ⟨mk, i, none⟩ = false := by
 refine ⟨?_, ?_, ?_, fun i => Lib.frozen_of_heap h.blk i⟩
 ·rw [Lib.cell_of_heap h.blk]; exact mkC_0 gf nw mp gst v1 f v2
 ·rw [Lib.cell_of_heap h.blk]; exact mkC_1 gf nw mp gst v1 f v2
 ·rw [Lib.cell_of_heap h.blk]
  simp only [List.getElem?_toArray]
  exact mkC_258 gf nw mp gst v1 f v2
end Go.Proofs.YtejdfpieblkapaaGreatDoor

/- A region of newMaker's: what is known between its operations. -/
namespace Go.Proofs.YtejdfpieblkapaaGreatDoor
open Lib renaming hid → zh
open Go.RowKit Go.Shelf

set_option maxRecDepth 100000 in
set_option maxHeartbeats 1000000 in
theorem bs_ofc (w : World) (n m c : Nat) (A : Option Addr) (l : List Nat) (hA : NsAt w A l) (hm : m = l.length) (hn : n ≤ 1000000) (hm2 : m ≤ 1000000) (hl : ∀ p ∈ l, p < n) :
  Calls Tryz.prog 92 #[.int .i64 n, .slice A m c] w fun e w' => e = .returned (bsV w.heap.size ((n + 63) / 64)) ∧ BsAt w' w.heap.size (puts (List.replicate ((n + 63) / 64) 0) l) ∧ Below w.heap.size w w' := by
 have HA := zh hA; have HM := zh hm; have HL := zh hl
 clear hA hm hl
 go_enter Tryz.func92, Tryz.ntmps92
 go_wp2_with fail
 go_at_call 49
 refine (bs_new w n hn).mono ?_
 rintro _ w0 ⟨rfl, hz, hb⟩
 obtain ⟨nw, hnw⟩ : ∃ nw, nw = (n + 63) / 64 := ⟨_, rfl⟩
 rw [← hnw] at hz ⊢
 have HZ := zh hz; have HB0 := zh hb; have HNW := zh hnw
 have HG := zh (show ∀ p ∈ l, p / 64 < nw by intro p hp; have := HL.out p hp; rw [hnw]; omega)
 clear hz hb hnw
 go_wp2_with fail
 go_loopw [12] (fun i wr => ∃ k : Nat, k ≤ m ∧ i = .int .i64 k ∧ Hid (BsAt wr w.heap.size (puts (List.replicate nw 0) (l.take k))) ∧ Hid (Kb (fun i => i = w.heap.size) w0 wr)) (fun i _ => m - (intOf i).toNat)
 case atStart => exact ⟨0, Nat.zero_le _, rfl, HZ.out, Kb.refl _ _⟩
 case round =>
  obtain ⟨k, hk, rfl, HB, HK⟩ := hrel
  by_cases hlt : k < m
  ·have hki : (k : Int) < m := by omega
   have hk0 : (0 : Int) ≤ k := by omega
   obtain ⟨p, hp⟩ : ∃ p, l[k]? = some p := ⟨_, List.getElem?_eq_getElem (by rw [← HM.out]; exact hlt)⟩
   obtain ⟨g, rfl, hc⟩ := (HA.out.below (HB0.out.trans (HK.out.below HB0.out.size (fun i hi => Nat.le_of_eq hi.symm)))).get hp
   have hpn := HL.out p (List.mem_of_getElem? hp)
   have hpw := HG.out p (List.mem_of_getElem? hp)
   have HP := zh (show puts (List.replicate nw 0) (l.take (k + 1)) = put1 (puts (List.replicate nw 0) (l.take k)) p by rw [List.take_add_one, hp]; exact puts_snoc _ _ _)
   have hlen : (puts (List.replicate nw 0) (l.take k)).length = nw := by rw [puts_len, List.length_replicate]
   have HE := zh (bs_add wr w.heap.size p nw _ HB.out hlen.symm (by rw [hlen]; exact hpw) (by omega))
   clear hp
   go_wp2_with fail
   go_at_call 85
   refine HE.out.mono ?_
   rintro _ w2 ⟨rfl, hb2, hk2⟩
   rw [← put1_eq _ _ (by rw [hlen]; exact hpw), ← HP.out] at hb2
   have HB2 := zh hb2; have HK2 := zh hk2
   clear hb2 hk2 HE hlen
   go_wp2_with fail
   go_roundw
   case rel => exact ⟨k + 1, by omega, by go_num, HB2, HK.out.trans HK2.out (fun i _ hi => hi)⟩
   case measure => simp [intOf]; omega
  ·obtain rfl : k = m := by omega
   have h1 := HB.out
   rw [HM.out, List.take_length] at h1
   have H1 := zh h1
   clear h1
   go_wp2_with fail
   go_ret
   exact ⟨by rw [← HNW.out]; rfl, by rw [← HNW.out]; exact H1.out, HB0.out.trans (HK.out.below HB0.out.size (fun i hi => Nat.le_of_eq hi.symm))⟩

theorem idx101 (w : World) (cs : List Value) (b c : Nat) (hb : b < 256) (h : cs[b]? = some (pv c)) : (Instr.index 101 (.agg cs.toArray) (.int .i64 b)).run Tryz.prog w = .ok (pv c) w := by
 have h1 : (b : Int) < 256 := by omega
 have h2 : (0 : Int) ≤ b := by omega
 obtain ⟨hl, hg⟩ := List.getElem?_eq_some_iff.1 h
 simp [Instr.index, run_underlying Tryz.underlying101, asIntOf, h1, h2, go_sem, hl, hg]
 intro h; omega
structure StF (w0 : World) (fo : List Nat) (mk nw H p : Nat) (V1 : Value) (xs : List Value) (PL : List Nat → Prop) (L : Nat → Bool) (w' : World) (v58 v59 v60 v61 : Value) : Prop where
 n8 : L 8 = false → w' = w0
 n11 : L 11 = false → Below w0.heap.size w0 w'
 i4 : L 11 = true → L 4 = true
 i9 : L 9 = true → L 8 = true
 i10 : L 10 = true → L 9 = true
 i11 : L 11 = true → L 10 = true
 i14 : L 14 = true → L 11 = true
 a : L 8 = true → L 9 = false → ∃ Af cf l, v58 = .slice Af (List.length l) cf ∧ NsAt w' Af l ∧ PL l ∧ l.length ≤ 100000
 b : L 9 = true → L 10 = false → ∃ g, v59 = bsV g nw ∧ BsAt w' g fo ∧ w0.heap.size ≤ g
 c : L 10 = true → L 11 = false → ∃ g bk, v60 = .slice (some ⟨bk, 0, none⟩) 1 1 ∧ w'.heap[bk]? = some (.cells #[bsV g nw] 87 (0, 0)) ∧ BsAt w' g fo ∧ w0.heap.size ≤ g ∧ w0.heap.size ≤ bk
 d : L 11 = true → L 14 = false → ∃ g gg cap, v61 = .slice (some ⟨gg, 0, none⟩) (p + 1) cap ∧ w'.ownsRow H 87 1 v61 (p + 1) (xs ++ [bsV g nw]) ∧ BsAt w' g fo ∧ Kb (fun i => some i = V1.ownBlock) w0 w'
 e : L 14 = true → ∃ g gg cap w6, w'  = w6.setCell ⟨mk, 1, none⟩ (.slice (some ⟨gg, 0, none⟩) (p + 1) cap) ∧ w6.ownsRow H 87 1 (.slice (some ⟨gg, 0, none⟩) (p + 1) cap) (p + 1) (xs ++ [bsV g nw]) ∧ BsAt w6 g fo ∧ Kb (fun i => some i = V1.ownBlock) w0 w6
section
variable {w0 : World} {fo : List Nat} {mk nw H p : Nat} {V1 : Value} {xs : List Value} {PL : List Nat → Prop} {L : Nat → Bool} {w' : World} {v58 v59 v60 v61 : Value}
theorem StF.no (h : StF w0 fo mk nw H p V1 xs PL L w' v58 v59 v60 v61) : (L 8 = false → L 9 = false) ∧ (L 9 = false → L 10 = false) ∧ (L 10 = false → L 11 = false) ∧ (L 11 = false → L 14 = false) := by
 have g : ∀ {x y : Bool}, (x = true → y = true) → y = false → x = false := fun {x y} f hy => by
  cases x with
  | false => rfl
  | true => rw [f rfl] at hy; cases hy
 exact ⟨g h.i9, g h.i10, g h.i11, g h.i14⟩
theorem StF.p0 (h : StF w0 fo mk nw H p V1 xs PL L w' v58 v59 v60 v61) : StF w0 fo mk nw H p V1 xs PL (upd L 0) w' v58 v59 v60 v61 := ⟨h.n8, h.n11, h.i4, h.i9, h.i10, h.i11, h.i14, h.a, h.b, h.c, h.d, h.e⟩
theorem StF.p1 (h : StF w0 fo mk nw H p V1 xs PL L w' v58 v59 v60 v61) : StF w0 fo mk nw H p V1 xs PL (upd L 1) w' v58 v59 v60 v61 := ⟨h.n8, h.n11, h.i4, h.i9, h.i10, h.i11, h.i14, h.a, h.b, h.c, h.d, h.e⟩
theorem StF.p2 (h : StF w0 fo mk nw H p V1 xs PL L w' v58 v59 v60 v61) : StF w0 fo mk nw H p V1 xs PL (upd L 2) w' v58 v59 v60 v61 := ⟨h.n8, h.n11, h.i4, h.i9, h.i10, h.i11, h.i14, h.a, h.b, h.c, h.d, h.e⟩
theorem StF.p3 (h : StF w0 fo mk nw H p V1 xs PL L w' v58 v59 v60 v61) : StF w0 fo mk nw H p V1 xs PL (upd L 3) w' v58 v59 v60 v61 := ⟨h.n8, h.n11, h.i4, h.i9, h.i10, h.i11, h.i14, h.a, h.b, h.c, h.d, h.e⟩
theorem StF.p4 (h : StF w0 fo mk nw H p V1 xs PL L w' v58 v59 v60 v61) : StF w0 fo mk nw H p V1 xs PL (upd L 4) w' v58 v59 v60 v61 := ⟨h.n8, h.n11, fun _ => rfl, h.i9, h.i10, h.i11, h.i14, h.a, h.b, h.c, h.d, h.e⟩
theorem StF.p5 (h : StF w0 fo mk nw H p V1 xs PL L w' v58 v59 v60 v61) : StF w0 fo mk nw H p V1 xs PL (upd L 5) w' v58 v59 v60 v61 := ⟨h.n8, h.n11, h.i4, h.i9, h.i10, h.i11, h.i14, h.a, h.b, h.c, h.d, h.e⟩
theorem StF.p6 (h : StF w0 fo mk nw H p V1 xs PL L w' v58 v59 v60 v61) : StF w0 fo mk nw H p V1 xs PL (upd L 6) w' v58 v59 v60 v61 := ⟨h.n8, h.n11, h.i4, h.i9, h.i10, h.i11, h.i14, h.a, h.b, h.c, h.d, h.e⟩
theorem StF.p7 (h : StF w0 fo mk nw H p V1 xs PL L w' v58 v59 v60 v61) : StF w0 fo mk nw H p V1 xs PL (upd L 7) w' v58 v59 v60 v61 := ⟨h.n8, h.n11, h.i4, h.i9, h.i10, h.i11, h.i14, h.a, h.b, h.c, h.d, h.e⟩
theorem StF.p12 (h : StF w0 fo mk nw H p V1 xs PL L w' v58 v59 v60 v61) : StF w0 fo mk nw H p V1 xs PL (upd L 12) w' v58 v59 v60 v61 := ⟨h.n8, h.n11, h.i4, h.i9, h.i10, h.i11, h.i14, h.a, h.b, h.c, h.d, h.e⟩
theorem StF.p13 (h : StF w0 fo mk nw H p V1 xs PL L w' v58 v59 v60 v61) : StF w0 fo mk nw H p V1 xs PL (upd L 13) w' v58 v59 v60 v61 := ⟨h.n8, h.n11, h.i4, h.i9, h.i10, h.i11, h.i14, h.a, h.b, h.c, h.d, h.e⟩
theorem StF.start (h : ∀ j, j < 15 → L j = false) : StF w0 fo mk nw H p V1 xs PL L w0 v58 v59 v60 v61 := by
 have n : ∀ j, j < 15 → ∀ {p : Prop}, L j = true → p := fun j hj p e => by rw [h j hj] at e; cases e
 exact ⟨fun _ => rfl, fun _ => Below.refl _ _, n 11 (by omega), n 9 (by omega), n 10 (by omega), n 11 (by omega), n 14 (by omega), n 8 (by omega), n 9 (by omega), n 10 (by omega), n 11 (by omega), n 14 (by omega)⟩
theorem StF.s8 (h : StF w0 fo mk nw H p V1 xs PL L w' v58 v59 v60 v61) (hL : L 8 = false) {w2 : World} {v : Value} (hb : Below w0.heap.size w0 w2) (ha : ∃ Af cf l, v = .slice Af (List.length l) cf ∧ NsAt w2 Af l ∧ PL l ∧ l.length ≤ 100000) : StF w0 fo mk nw H p V1 xs PL (upd L 8) w2 v v59 v60 v61 := by
 have h9 := h.no.1 hL
 have h10 := h.no.2.1 h9
 have h11 := h.no.2.2.1 h10
 have h14 := h.no.2.2.2 h11
 have e9 : upd L 8 9 = false := h9
 have e10 : upd L 8 10 = false := h10
 have e11 : upd L 8 11 = false := h11
 have e14 : upd L 8 14 = false := h14
 exact ⟨fun e => (by rw [upd_self] at e; cases e), fun _ => hb, fun e => (by rw [e11] at e; cases e), fun e => (by rw [e9] at e; cases e), fun e => (by rw [e10] at e; cases e), fun e => (by rw [e11] at e; cases e), fun e => (by rw [e14] at e; cases e), fun _ _ => ha, fun e => (by rw [e9] at e; cases e), fun e => (by rw [e10] at e; cases e), fun e => (by rw [e11] at e; cases e), fun e => (by rw [e14] at e; cases e)⟩
theorem StF.s9 (h : StF w0 fo mk nw H p V1 xs PL L w' v58 v59 v60 v61) (hL : L 9 = false) (l8 : L 8 = true) {w2 : World} {g : Nat} (hb : Below w'.heap.size w' w2) (ha : BsAt w2 g fo) (hg : w'.heap.size ≤ g) : StF w0 fo mk nw H p V1 xs PL (upd L 9) w2 v58 (bsV g nw) v60 v61 := by
 have h10 := h.no.2.1 hL
 have h11 := h.no.2.2.1 h10
 have h14 := h.no.2.2.2 h11
 have e8 : upd L 9 8 = true := l8
 have e10 : upd L 9 10 = false := h10
 have e11 : upd L 9 11 = false := h11
 have e14 : upd L 9 14 = false := h14
 have hw := h.n11 h11
 exact ⟨fun e => (by rw [e8] at e; cases e), fun _ => hw.trans (hb.mono hw.size), fun e => (by rw [e11] at e; cases e), fun _ => e8, fun e => (by rw [e10] at e; cases e), fun e => (by rw [e11] at e; cases e), fun e => (by rw [e14] at e; cases e), fun _ e => (by rw [upd_self] at e; cases e), fun _ _ => ⟨g, rfl, ha, Nat.le_trans hw.size hg⟩, fun e => (by rw [e10] at e; cases e), fun e => (by rw [e11] at e; cases e), fun e => (by rw [e14] at e; cases e)⟩
theorem StF.s10 (h : StF w0 fo mk nw H p V1 xs PL L w' v58 v59 v60 v61) (hL : L 10 = false) (l9 : L 9 = true) {g : Nat} (hv : v59 = bsV g nw) (ha : BsAt w' g fo) (hg : w0.heap.size ≤ g) : StF w0 fo mk nw H p V1 xs PL (upd L 10) (w'.alloc (.cells #[bsV g nw] 87)) v58 v59 (.slice (some ⟨w'.heap.size, 0, none⟩) 1 1) v61 := by
 have h11 := h.no.2.2.1 hL
 have h14 := h.no.2.2.2 h11
 have e8 : upd L 10 8 = true := h.i9 l9
 have e9 : upd L 10 9 = true := l9
 have e11 : upd L 10 11 = false := h11
 have e14 : upd L 10 14 = false := h14
 have hw := h.n11 h11
 have hb := (Below.refl _ w').alloc (Nat.le_refl _) (.cells #[bsV g nw] 87)
 exact ⟨fun e => (by rw [e8] at e; cases e), fun _ => hw.trans (hb.mono hw.size), fun e => (by rw [e11] at e; cases e), fun _ => e8, fun _ => e9, fun e => (by rw [e11] at e; cases e), fun e => (by rw [e14] at e; cases e), fun _ e => (by rw [e9] at e; cases e), fun _ e => (by rw [upd_self] at e; cases e), fun _ _ => ⟨g, _, rfl, heap_alloc_new w' _, ha.below hb, hg, hw.size⟩, fun e => (by rw [e11] at e; cases e), fun e => (by rw [e14] at e; cases e)⟩
theorem StF.s11 (h : StF w0 fo mk nw H p V1 xs PL L w' v58 v59 v60 v61) (hL : L 11 = false) (l10 : L 10 = true) (l4 : L 4 = true) {w2 : World} {g gg cap : Nat} (ho : w2.ownsRow H 87 1 (.slice (some ⟨gg, 0, none⟩) (p + 1) cap) (p + 1) (xs ++ [bsV g nw])) (ha : BsAt w2 g fo) (hk : Kb (fun i => some i = V1.ownBlock) w0 w2) : StF w0 fo mk nw H p V1 xs PL (upd L 11) w2 v58 v59 v60 (.slice (some ⟨gg, 0, none⟩) (p + 1) cap) := by
 have h14 := h.no.2.2.2 hL
 have e8 : upd L 11 8 = true := h.i9 (h.i10 l10)
 have e9 : upd L 11 9 = true := h.i10 l10
 have e10 : upd L 11 10 = true := l10
 have e4 : upd L 11 4 = true := l4
 have e14 : upd L 11 14 = false := h14
 exact ⟨fun e => (by rw [e8] at e; cases e), fun e => (by rw [upd_self] at e; cases e), fun _ => e4, fun _ => e8, fun _ => e9, fun _ => e10, fun e => (by rw [e14] at e; cases e), fun _ e => (by rw [e9] at e; cases e), fun _ e => (by rw [e10] at e; cases e), fun _ e => (by rw [upd_self] at e; cases e), fun _ _ => ⟨g, gg, cap, rfl, ho, ha, hk⟩, fun e => (by rw [e14] at e; cases e)⟩
theorem StF.s14 (h : StF w0 fo mk nw H p V1 xs PL L w' v58 v59 v60 v61) (l11 : L 11 = true) {g gg cap : Nat} (ho : w'.ownsRow H 87 1 (.slice (some ⟨gg, 0, none⟩) (p + 1) cap) (p + 1) (xs ++ [bsV g nw])) (ha : BsAt w' g fo) (hk : Kb (fun i => some i = V1.ownBlock) w0 w') : StF w0 fo mk nw H p V1 xs PL (upd L 14) (w'.setCell ⟨mk, 1, none⟩ (.slice (some ⟨gg, 0, none⟩) (p + 1) cap)) v58 v59 v60 v61 := by
 have e8 : upd L 14 8 = true := h.i9 (h.i10 (h.i11 l11))
 have e9 : upd L 14 9 = true := h.i10 (h.i11 l11)
 have e10 : upd L 14 10 = true := h.i11 l11
 have e11 : upd L 14 11 = true := l11
 have e4 : upd L 14 4 = true := h.i4 l11
 exact ⟨fun e => (by rw [e8] at e; cases e), fun e => (by rw [e11] at e; cases e), fun _ => e4, fun _ => e8, fun _ => e9, fun _ => e10, fun _ => e11, fun _ e => (by rw [e9] at e; cases e), fun _ e => (by rw [e10] at e; cases e), fun _ e => (by rw [e11] at e; cases e), fun _ e => (by rw [upd_self] at e; cases e), fun _ => ⟨g, gg, cap, w', rfl, ho, ha, hk⟩⟩
end
end Go.Proofs.YtejdfpieblkapaaGreatDoor
