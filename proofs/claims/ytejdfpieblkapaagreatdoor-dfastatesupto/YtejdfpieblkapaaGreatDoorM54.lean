/- Carried from another seat. -/
import Derived.Test.YtejdfpieblkapaaGreatDoorM51
import Derived.Test.YtejdfpieblkapaaGreatDoorM30
import Derived.Deep.MidRow
namespace Go.Proofs.YtejdfpieblkapaaGreatDoor
open Lib renaming hid → zh
open Go.RowKit Go.Shelf
def Ans (v : Value) (w : World) (e : Ending) (w' : World) : Prop := e = .returned v ∧ Below w.heap.size w w'

def setB (s : Ws) : List Value := (List.range 256).map fun k => .bool (s.hasN k)
def noB : List Value := (List.range 256).map fun _ => .bool false
def RfC (k : Int) (bs : List Value) (L : Value) : List Value := .int .i64 k :: (bs ++ [L])
def RfV (w : World) : Rx → List Value → Prop
 | .set s, cs => cs = RfC 0 (setB s) (.slice none 0 0)
 | .empty, cs => cs = RfC 1 noB (.slice none 0 0)
 | .cat x y, cs => ∃ g fz cx cy, cs = RfC 2 noB (.slice (some ⟨g, 0, none⟩) 2 2) ∧ w.heap[g]? = some (.cells (cx ++ cy).toArray 36 fz) ∧ RfV w x cx ∧ RfV w y cy
 | .or x y, cs => ∃ g fz cx cy, cs = RfC 3 noB (.slice (some ⟨g, 0, none⟩) 2 2) ∧ w.heap[g]? = some (.cells (cx ++ cy).toArray 36 fz) ∧ RfV w x cx ∧ RfV w y cy
 | .star x, cs => ∃ g fz cx, cs = RfC 4 noB (.slice (some ⟨g, 0, none⟩) 1 1) ∧ w.heap[g]? = some (.cells cx.toArray 36 fz) ∧ RfV w x cx
theorem RfC_len (k : Int) {bs : List Value} (L : Value) (h : bs.length = 256) : (RfC k bs L).length = 258 := by
 simp [RfC, h]
theorem RfC_last (k : Int) {bs : List Value} (L : Value) (h : bs.length = 256) : (RfC k bs L)[257]? = some L := by
 unfold RfC
 rw [List.getElem?_cons_succ, List.getElem?_append_right (by omega), h]; rfl
theorem setB_len (s : Ws) : (setB s).length = 256 := by simp [setB]
theorem noB_len : noB.length = 256 := by simp [noB]
theorem RfV.len {w : World} : ∀ {r : Rx} {cs : List Value}, RfV w r cs → cs.length = 258
 | .set s, cs, h => by rw [show cs = _ from h]; exact RfC_len _ _ (setB_len s)
 | .empty, cs, h => by rw [show cs = _ from h]; exact RfC_len _ _ noB_len
 | .cat x y, cs, ⟨g, fz, cx, cy, h, _⟩ => by rw [h]; exact RfC_len _ _ noB_len
 | .or x y, cs, ⟨g, fz, cx, cy, h, _⟩ => by rw [h]; exact RfC_len _ _ noB_len
 | .star x, cs, ⟨g, fz, cx, h, _⟩ => by rw [h]; exact RfC_len _ _ noB_len
theorem RfV.below {w w' : World} (hb : Below w.heap.size w w') : ∀ {r : Rx} {cs : List Value}, RfV w r cs → RfV w' r cs
 | .set _s, _cs, h => h
 | .empty, _cs, h => h
 | .cat _x _y, _cs, ⟨g, fz, cx, cy, h1, h2, h3, h4⟩ => ⟨g, fz, cx, cy, h1, (hb.block g (lt_of_heap h2)).trans h2, h3.below hb, h4.below hb⟩
 | .or _x _y, _cs, ⟨g, fz, cx, cy, h1, h2, h3, h4⟩ => ⟨g, fz, cx, cy, h1, (hb.block g (lt_of_heap h2)).trans h2, h3.below hb, h4.below hb⟩
 | .star _x, _cs, ⟨g, fz, cx, h1, h2, h3⟩ => ⟨g, fz, cx, h1, (hb.block g (lt_of_heap h2)).trans h2, h3.below hb⟩
structure RfK (w : World) (cs : List Value) (n : Nat) (kid : Nat → Rx) : Prop where
 len : cs.length = 258
 row : ∃ A, cs[257]? = some (.slice A n n) ∧ ∀ k, k < n → ∃ g ck, A = some ⟨g, 0, none⟩ ∧ g < w.heap.size ∧ w.rangeAt g (k * 258) ck ∧ RfV w (kid k) ck
theorem range_of {w : World} {g : Nat} {fz : Nat × Nat} {a b c : List Value} (h : w.heap[g]? = some (.cells (a ++ b ++ c).toArray 36 fz)) : w.rangeAt g a.length b := fun j v hv => by
 rw [Lib.cell_of_heap h]
 show (a ++ b ++ c).toArray[a.length + j]? = some v
 rw [List.getElem?_toArray, List.append_assoc, List.getElem?_append_right (by omega), Nat.add_sub_cancel_left, List.getElem?_append_left (List.getElem?_eq_some_iff.1 hv).1]
 exact hv
theorem RfV.kids {w : World} : ∀ {r : Rx} {cs : List Value}, RfV w r cs → RfK w cs r.kids (fun k => (r.kid k).getD .empty)
 | .set s, cs, h => ⟨RfV.len (r := .set s) h, none, by rw [show cs = _ from h]; exact RfC_last _ _ (setB_len s), fun k hk => absurd hk (by show ¬ k < 0; omega)⟩
 | .empty, cs, h => ⟨RfV.len (r := .empty) h, none, by rw [show cs = _ from h]; exact RfC_last _ _ noB_len, fun k hk => absurd hk (by show ¬ k < 0; omega)⟩
 | .cat x y, cs, ⟨g, fz, cx, cy, h1, h2, h3, h4⟩ => ⟨RfV.len (r := .cat x y) ⟨g, fz, cx, cy, h1, h2, h3, h4⟩, some ⟨g, 0, none⟩, by rw [h1]; exact RfC_last _ _ noB_len, fun k hk => by
   have hk2 : k < 2 := hk
   rcases (show k = 0 ∨ k = 1 by omega) with rfl | rfl
   ·exact ⟨g, cx, rfl, lt_of_heap h2, by have := range_of (a := []) (b := cx) (c := cy) (by simpa using h2); simpa using this, h3⟩
   ·exact ⟨g, cy, rfl, lt_of_heap h2, by have := range_of (a := cx) (b := cy) (c := []) (by simpa using h2); rw [h3.len] at this; simpa using this, h4⟩⟩
 | .or x y, cs, ⟨g, fz, cx, cy, h1, h2, h3, h4⟩ => ⟨RfV.len (r := .or x y) ⟨g, fz, cx, cy, h1, h2, h3, h4⟩, some ⟨g, 0, none⟩, by rw [h1]; exact RfC_last _ _ noB_len, fun k hk => by
   have hk2 : k < 2 := hk
   rcases (show k = 0 ∨ k = 1 by omega) with rfl | rfl
   ·exact ⟨g, cx, rfl, lt_of_heap h2, by have := range_of (a := []) (b := cx) (c := cy) (by simpa using h2); simpa using this, h3⟩
   ·exact ⟨g, cy, rfl, lt_of_heap h2, by have := range_of (a := cx) (b := cy) (c := []) (by simpa using h2); rw [h3.len] at this; simpa using this, h4⟩⟩
 | .star x, cs, ⟨g, fz, cx, h1, h2, h3⟩ => ⟨RfV.len (r := .star x) ⟨g, fz, cx, h1, h2, h3⟩, some ⟨g, 0, none⟩, by rw [h1]; exact RfC_last _ _ noB_len, fun k hk => by
   obtain rfl : k = 0 := by have : k < 1 := hk; omega
   exact ⟨g, cx, rfl, lt_of_heap h2, by have := range_of (a := []) (b := cx) (c := []) (by simpa using h2); simpa using this, h3⟩⟩
theorem Rx.size_kids : ∀ r : Rx, r.size = 1 + ((List.range r.kids).map fun k => ((r.kid k).getD .empty).size).sum
 | .set _ => rfl
 | .empty => rfl
 | .cat a b => by show 1 + a.size + b.size = 1 + (a.size + (b.size + 0)); omega
 | .or a b => by show 1 + a.size + b.size = 1 + (a.size + (b.size + 0)); omega
 | .star a => by show 1 + a.size = 1 + (a.size + 0); omega
theorem Tryz.info36 : (Tryz.prog.info? 36).map (·.size) = some 258 := by kernel_rfl

set_option maxRecDepth 100000 in
set_option maxHeartbeats 2000000 in
theorem rsize_step (n : Nat) (kid : Nat → Rx) (hn : n ≤ 2) (hrec : ∀ k, k < n → ∀ (w : World) (cs : List Value), RfV w (kid k) cs → Calls Tryz.prog 77 #[.agg cs.toArray] w (Ans (.int .i64 (kid k).size) w)) (hz : ∀ k, k < n → (kid k).size ≤ 1000000) (w : World) (cs : List Value) (h : RfK w cs n kid) :
  Calls Tryz.prog 77 #[.agg cs.toArray] w (Ans (.int .i64 ((1 + ((List.range n).map fun k => (kid k).size).sum : Nat) : Int)) w) := by
 obtain ⟨hlen, A, hA, hkid⟩ := h
 have hb : Below w.heap.size w (w.alloc (.cells cs.toArray 36)) := (Below.refl _ w).alloc (Nat.le_refl _) _
 have hcell : (w.alloc (.cells cs.toArray 36)).cell? ⟨w.heap.size, 257, none⟩ = some (.slice A n n) := by
  rw [Lib.cell_of_heap (heap_alloc_new w _)]
  show cs.toArray[257]? = _
  rw [List.getElem?_toArray]; exact hA
 have HK := zh hkid; have HR := zh hrec; have HZ := zh hz; have HB := zh hb; have HC := zh hcell
 clear hkid hrec hz hb hA hcell
 go_enter Tryz.func77, Tryz.ntmps77
 go_wp2_with fail
 go_loopw [3, 4] (fun vs vi wr => ∃ k S : Nat, k ≤ n ∧ vi = .int .i64 k ∧ vs = .int .i64 S ∧ S ≤ 1 + k * 1000000 ∧ Hid (S = 1 + ((List.range k).map fun k => (kid k).size).sum) ∧ Hid (Below w.heap.size w wr ∧ wr.cell? ⟨w.heap.size, 257, none⟩ = some (.slice A n n) ∧ w.heap.size < wr.heap.size)) (fun _ vi _ => n - (intOf vi).toNat)
 case atStart => exact ⟨0, 1, by omega, rfl, rfl, by omega, rfl, HB.out, HC.out, by simp⟩
 case round =>
  obtain ⟨k, S, hk, rfl, rfl, hS, HS, HW⟩ := hrel
  obtain ⟨q1, q2, q3⟩ := HW.out
  have HQ1 := zh q1
  clear q1
  by_cases hlt : k < n
  ·obtain ⟨g, ck, rfl, hgl, hrg, hv⟩ := HK.out k hlt
   have hki : (k : Int) < n := by omega
   have hk0 : (0 : Int) ≤ k := by omega
   have hrg' : wr.rangeAt g (k * 258) ck := fun j v hj => (HQ1.out.cell (p := ⟨g, k * 258 + j, none⟩) hgl).trans (hrg j v hj)
   have hvl : RfV wr (kid k) ck := hv.below HQ1.out
   have hvlen := hv.len
   have HCL := zh (HR.out k hlt wr ck hvl)
   have hzk := HZ.out k hlt
   obtain ⟨z, hz⟩ : ∃ z, z = (kid k).size := ⟨_, rfl⟩
   rw [← hz] at HCL hzk
   have HS2 := zh (show S + z = 1 + ((List.range (k + 1)).map fun k => (kid k).size).sum by rw [HS.out, List.range_succ, List.map_append, List.sum_append, hz]; simp; omega)
   have HRG := zh hrg'
   have HIN := zh (show (Tryz.prog.info? 36).map (·.size) = some ck.length by rw [hvlen]; exact Tryz.info36)
   clear hrg hrg' hv hvl hz hvlen
   go_wp2_with fail
   refine wp_load_mid 36 (.tmp 16) rfl g (k * 258) rfl ck _ HRG.out Tryz.underlying36 rfl HIN.out ?_
   go_wp2_with fail
   refine HCL.out.mono ?_
   rintro e w2 ⟨rfl, hb2⟩
   have HW2 := zh (And.intro (HQ1.out.trans (hb2.mono HQ1.out.size)) (And.intro ((hb2.cell (p := ⟨w.heap.size, 257, none⟩) q3).trans q2) (Nat.lt_of_lt_of_le q3 hb2.size)))
   clear hb2
   go_wp2
   go_roundw
   case rel => exact ⟨k + 1, S + z, by omega, by go_num, by go_num, by omega, HS2.out, HW2.out⟩
   case measure => simp [intOf]; omega
  ·obtain rfl : k = n := by omega
   go_wp2
   go_ret
   exact ⟨by rw [HS.out]; rfl, HQ1.out⟩
theorem Rx.kids_le (r : Rx) : r.kids ≤ 2 := by cases r <;> simp [Rx.kids]
theorem kid_lt : ∀ (r : Rx) (k : Nat), k < r.kids → ((r.kid k).getD .empty).size < r.size
 | .set _, k, h => absurd h (by show ¬ k < 0; omega)
 | .empty, k, h => absurd h (by show ¬ k < 0; omega)
 | .cat a b, k, h => by
  have h2 : k < 2 := h
  rcases (show k = 0 ∨ k = 1 by omega) with rfl | rfl
  ·show a.size < 1 + a.size + b.size; omega
  ·show b.size < 1 + a.size + b.size; omega
 | .or a b, k, h => by
  have h2 : k < 2 := h
  rcases (show k = 0 ∨ k = 1 by omega) with rfl | rfl
  ·show a.size < 1 + a.size + b.size; omega
  ·show b.size < 1 + a.size + b.size; omega
 | .star a, k, h => by
  obtain rfl : k = 0 := by have : k < 1 := h; omega
  show a.size < 1 + a.size; omega
theorem rsize_any (m : Nat) : ∀ (r : Rx), r.size ≤ m → r.size ≤ 1000000 → ∀ (w : World) (cs : List Value), RfV w r cs → Calls Tryz.prog 77 #[.agg cs.toArray] w (Ans (.int .i64 r.size) w) := by
 induction m with
 | zero => intro r hr; have := r.size_pos; omega
 | succ m ih =>
  intro r hr hz w cs h
  have := rsize_step r.kids (fun k => (r.kid k).getD .empty) r.kids_le (fun k hk w cs hv => ih _ (by have := kid_lt r k hk; omega) (by have := kid_lt r k hk; omega) w cs hv) (fun k hk => by have := kid_lt r k hk; omega) w cs h.kids
  rw [← r.size_kids] at this
  exact this
end Go.Proofs.YtejdfpieblkapaaGreatDoor
