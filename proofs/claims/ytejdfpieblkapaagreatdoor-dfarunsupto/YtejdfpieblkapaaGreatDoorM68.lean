/- Carried from another seat. -/
import Derived.Test.YtejdfpieblkapaaGreatDoorM60
import Derived.Laws.CopyOwn
import Derived.Deep.DeepCutAuto
namespace Go.Proofs.YtejdfpieblkapaaGreatDoor
open Lib renaming hid → zh
open List renaming getElem_toArray → w1z, getElem_cons_zero → w2z, getElem_cons_succ → w3z, setIfInBounds_toArray → w4z, set_cons_zero → w5z, set_cons_succ → w6z
open Go.RowKit Go.Shelf

def EnF (r : Rx) (T : List UInt8) (n : Nat) (f : Nat → Bool) (w : World) (e : Ending) (w' : World) : Prop := ∃ O o, e = .returned (.slice (some ⟨O, 0, none⟩) n n) ∧ BlR w' O n o ∧ En r T f o ∧ Below w.heap.size w w' ∧ w.heap.size ≤ O
def EndsOk (r : Rx) : Prop := ∀ (w : World) (cs : List Value) (t : ByteArray) (F n : Nat) (f : Nat → Bool), RfV w r cs → t.size ≤ 10000 → n = t.size + 1 → BlR w F n f → Calls Tryz.prog 51 #[.agg cs.toArray, .string t, .slice (some ⟨F, 0, none⟩) n n] w (EnF r t.data.toList n f w)
set_option maxRecDepth 100000 in
set_option maxHeartbeats 2000000 in
theorem ends_setF (s : Ws) (w : World) (cs : List Value) (t : ByteArray) (F n : Nat) (f : Nat → Bool) (h : RfV w (.set s) cs) (ht : t.size ≤ 10000) (hn : n = t.size + 1) (hF : BlR w F n f) :
  Calls Tryz.prog 51 #[.agg cs.toArray, .string t, .slice (some ⟨F, 0, none⟩) n n] w (EnF (.set s) t.data.toList n f w) := by
 have hcs : cs = RfC 0 (setB s) (.slice none 0 0) := h
 have hb0 : Below w.heap.size w (w.alloc (.cells cs.toArray 36)) := (Below.refl _ w).alloc (Nat.le_refl _) _
 have hblk := heap_alloc_new w (.cells cs.toArray 36)
 have p1 : IntKind.i64.wrap ((t.size : Int) + 1) = (n : Int) := by rw [hn, IntWalk.i64_in _ (by omega)]; omega
 obtain ⟨i0, hi0, hz0, hz1, hz2⟩ := info_parts Tryz.info4
 have HI := zh hi0; have HZ0 := zh hz0; have HZ1 := zh hz1; have HZ2 := zh hz2
 clear hi0 hz0 hz1 hz2
 have HCS := zh hcs; have HF := zh hF; have HN := zh hn; have HB0 := zh hb0; have HBL := zh hblk
 have hnb : n ≤ 10001 := by omega
 clear h hcs hF hb0 hblk hn
 have hb1 := HB0.out.alloc (show w.heap.size ≤ (w.alloc (.cells cs.toArray 36)).heap.size by simp) (.cells (madeCells #[.bool false] n) 4)
 have hO := BlR.made (w.alloc (.cells cs.toArray 36)) n
 have hsz : (w.alloc (.cells cs.toArray 36)).heap.size = w.heap.size + 1 := by simp
 rw [hsz] at hO
 have hB := (Below.heap_alloc (w.alloc (.cells cs.toArray 36)) (.cells (madeCells #[.bool false] n) 4) w.heap.size (by simp)).trans HBL.out
 have c0 : ((w.alloc (.cells cs.toArray 36)).alloc (.cells (madeCells #[.bool false] n) 4)).cell? ⟨w.heap.size, 0, none⟩ = some (.int .i64 0) := by rw [Lib.cell_of_heap hB, HCS.out]; rfl
 have HB1 := zh hb1; have HO := zh hO; have HBk := zh hB
 clear hb1 hO hB hsz
 go_enter Tryz.func51, Tryz.ntmps51
 go_wp2_with (at_make; refine wpList_make_row _ rfl _ _ 67 rfl 4 i0 (.bool false) Tryz.underlying67 HI.out HZ0.out HZ1.out rfl .i64 .i64 n rfl rfl (by rw [HZ2.out]; omega) (by omega) ?_)
 generalize (w.alloc (.cells cs.toArray 36)).alloc (.cells (madeCells #[.bool false] n) 4) = w1 at c0 HB1 HO HBk ⊢
 go_loopw [8] (fun vi wr => ∃ (k : Nat) (o : Nat → Bool), k ≤ t.size ∧ vi = .int .i64 k ∧ Hid (BlR wr (w.heap.size + 1) n o ∧ o 0 = false ∧ (∀ i (x : UInt8), i < k → t.data.toList[i]? = some x → o (i + 1) = (f i && s.has x)) ∧ Below w.heap.size w wr ∧ wr.heap[w.heap.size]? = some (.cells cs.toArray 36 (0, 0)))) (fun vi _ => t.size - (intOf vi).toNat)
 case atStart => exact ⟨0, fun _ => false, Nat.zero_le _, rfl, HO.out, rfl, fun i x hi => by omega, HB1.out, HBk.out⟩
 case round =>
  obtain ⟨k, o, hk, rfl, HQ⟩ := hrel
  obtain ⟨q1, q2, q3, q4, q5⟩ := HQ.out
  by_cases hlt : k < t.size
  ·have hki : (k : Int) < t.size := by omega
   have hk0 : (0 : Int) ≤ k := by omega
   have hnn := HN.out
   have hFk := ((HF.out.below q4).cell (k := k) (by omega)).1
   obtain ⟨k1, hk1⟩ : ∃ k1, k1 = k + 1 := ⟨_, rfl⟩
   obtain ⟨hOk, hOf⟩ := q1.cell (k := k1) (by omega)
   have hkn : (k : Int) < n := by omega
   have hk1n : (k1 : Int) < n := by omega
   have hk10 : (0 : Int) ≤ k1 := by omega
   have p2 : IntKind.i64.wrap ((k : Int) + 1) = (k1 : Int) := by rw [hk1, IntWalk.i64_in _ (by omega)]; omega
   have hxl := t[k].toNat_lt
   have hxi : ((t[k].toNat : Nat) : Int) < 256 := by omega
   have hget : t.data.toList[k]? = some t[k] := by
    rw [List.getElem?_eq_getElem (by rw [← Lib.size_eq]; exact hlt)]; simp; rfl
   have hBk : wr.cell? ⟨w.heap.size, 1 + t[k].toNat, none⟩ = some (.bool (s.has t[k])) := by
    rw [Lib.cell_of_heap q5]
    show cs.toArray[1 + t[k].toNat]? = _
    rw [List.getElem?_toArray, HCS.out, setB_get s (by omega)]; rfl
   obtain ⟨b, hb⟩ : ∃ b, b = s.has t[k] := ⟨_, rfl⟩
   rw [← hb] at hBk
   obtain ⟨a, ha⟩ : ∃ a, a = f k := ⟨_, rfl⟩
   rw [← ha] at hFk
   have HFin := zh (fun (v : Bool) (hv : v = (a && b)) => (show BlR (wr.setCell ⟨w.heap.size + 1, k1, none⟩ (.bool v)) (w.heap.size + 1) n (fun i => if i = k1 then v else o i) ∧ (fun i => if i = k1 then v else o i) 0 = false ∧ (∀ i (x : UInt8), i < k1 → t.data.toList[i]? = some x → (fun i => if i = k1 then v else o i) (i + 1) = (f i && s.has x)) ∧ Below w.heap.size w (wr.setCell ⟨w.heap.size + 1, k1, none⟩ (.bool v)) ∧ (wr.setCell ⟨w.heap.size + 1, k1, none⟩ (.bool v)).heap[w.heap.size]? = some (.cells cs.toArray 36 (0, 0)) from by
    refine ⟨q1.set k1 v, by show (if 0 = k1 then v else o 0) = false; rw [if_neg (by omega)]; exact q2, fun i x hi hx => ?_, q4.trans ((Kb.setCell wr ⟨w.heap.size + 1, k1, none⟩ _).below q4.size (fun i hi => by rw [hi]; show w.heap.size ≤ w.heap.size + 1; omega)), (Below.heap_setCell wr ⟨w.heap.size + 1, k1, none⟩ _ _ (by show w.heap.size ≠ w.heap.size + 1; omega)).trans q5⟩
    show (if i + 1 = k1 then v else o (i + 1)) = _
    by_cases e : i = k
    ·subst e
     rw [if_pos hk1.symm, hv, ha, hb]
     rw [hget] at hx
     injection hx with hx
     rw [hx]
    ·rw [if_neg (by omega)]
     exact q3 i x (by omega) hx))
   have HK1 := zh hk1
   clear q1 q2 q3 q4 q5 hget hb ha HQ hk1 hnn
   cases a <;> (
    go_wp2
    go_roundw
    case rel => exact ⟨k1, _, by have := HK1.out; omega, rfl, HFin.out _ (by simp)⟩
    case measure => have := HK1.out; simp [intOf]; omega)
  ·obtain rfl : k = t.size := by omega
   have hen : En (.set s) t.data.toList f o := En_set s _ f o q2 (fun i x hx => q3 i x (by have := (List.getElem?_eq_some_iff.1 hx).1; rw [← Lib.size_eq] at this; exact this) hx)
   have HE := zh (show EnF (.set s) t.data.toList n f w (.returned (.slice (some ⟨w.heap.size + 1, 0, none⟩) n n)) wr from ⟨_, o, rfl, q1, hen, q4, by omega⟩)
   clear q1 q2 q3 q4 q5 hen HQ
   go_wp2
   go_ret
   exact HE.out

set_option maxRecDepth 100000 in
set_option maxHeartbeats 1000000 in
theorem ends_cat (a b : Rx) (iha : EndsOk a) (ihb : EndsOk b) : EndsOk (.cat a b) := by
 intro w cs t F n f h ht hn hF
 obtain ⟨g, fz, cx, cy, hcs, hg, hvx, hvy⟩ := h
 have hb0 : Below w.heap.size w (w.alloc (.cells cs.toArray 36)) := (Below.refl _ w).alloc (Nat.le_refl _) _
 have hblk := heap_alloc_new w (.cells cs.toArray 36)
 have p1 : IntKind.i64.wrap ((t.size : Int) + 1) = (n : Int) := by rw [hn, IntWalk.i64_in _ (by omega)]; omega
 obtain ⟨i0, hi0, hz0, hz1, hz2⟩ := info_parts Tryz.info4
 have HI := zh hi0; have HZ0 := zh hz0; have HZ1 := zh hz1; have HZ2 := zh hz2
 clear hi0 hz0 hz1 hz2
 have hnb : n ≤ 10001 := by omega
 have hb1 := hb0.alloc (show w.heap.size ≤ (w.alloc (.cells cs.toArray 36)).heap.size by simp) (.cells (madeCells #[.bool false] n) 4)
 have hO := BlR.made (w.alloc (.cells cs.toArray 36)) n
 have hsz : (w.alloc (.cells cs.toArray 36)).heap.size = w.heap.size + 1 := by simp
 rw [hsz] at hO
 have hB := (Below.heap_alloc (w.alloc (.cells cs.toArray 36)) (.cells (madeCells #[.bool false] n) 4) w.heap.size (by simp)).trans hblk
 have c0 : ((w.alloc (.cells cs.toArray 36)).alloc (.cells (madeCells #[.bool false] n) 4)).cell? ⟨w.heap.size, 0, none⟩ = some (.int .i64 2) := by rw [Lib.cell_of_heap hB, hcs]; rfl
 have HCS := zh hcs; have HF := zh hF; have HN := zh hn; have HB1 := zh hb1; have HO := zh hO; have HBk := zh hB
 clear hcs hF hn hb0 hblk hb1 hO hB hsz
 go_enter Tryz.func51, Tryz.ntmps51
 go_wp2_with (at_make; refine wpList_make_row _ rfl _ _ 67 rfl 4 i0 (.bool false) Tryz.underlying67 HI.out HZ0.out HZ1.out rfl .i64 .i64 n rfl rfl (by rw [HZ2.out]; omega) (by omega) ?_)
 generalize (w.alloc (.cells cs.toArray 36)).alloc (.cells (madeCells #[.bool false] n) 4) = w1 at c0 HB1 HO HBk ⊢
 have hgl := lt_of_heap hg
 have hg1 := (HB1.out.block g hgl).trans hg
 have HRX := zh (show ∀ w', Below w1.heap.size w1 w' → w'.rangeAt g 0 cx from fun w' hb => range_left (row_range ((hb.block g (lt_of_heap hg1)).trans hg1)))
 have HRY := zh (show ∀ w', Below w1.heap.size w1 w' → w'.rangeAt g 258 cy from fun w' hb => by
  have := range_right (row_range ((hb.block g (lt_of_heap hg1)).trans hg1))
  rwa [hvx.len, Nat.zero_add] at this)
 have HHD := zh (show ∀ w', Below w1.heap.size w1 w' → w'.cell? ⟨w.heap.size, 257, none⟩ = some (.slice (some ⟨g, 0, none⟩) 2 2) from fun w' hb => by
  rw [hb.cell (p := ⟨w.heap.size, 257, none⟩) (lt_of_heap HBk.out), Lib.cell_of_heap HBk.out]
  show cs.toArray[257]? = _
  rw [List.getElem?_toArray, HCS.out]; exact RfC_last _ _ noB_len)
 have HVX := zh (show ∀ w', Below w1.heap.size w1 w' → RfV w' a cx from fun w' hb => (hvx.below HB1.out).below hb)
 have HVY := zh (show ∀ w', Below w1.heap.size w1 w' → RfV w' b cy from fun w' hb => (hvy.below HB1.out).below hb)
 have HIX := zh (show (Tryz.prog.info? 36).map (·.size) = some cx.length by rw [hvx.len]; exact Tryz.info36)
 have HIY := zh (show (Tryz.prog.info? 36).map (·.size) = some cy.length by rw [hvy.len]; exact Tryz.info36)
 have HF1 := zh (show ∀ w', Below w1.heap.size w1 w' → BlR w' F n f from fun w' hb => (HF.out.below HB1.out).below hb)
 clear hg hgl hg1 hvx hvy c0
 refine wp_region_held_drew (S := fun w' => Below w1.heap.size w1 w') (by kernel_rfl) ((Below.refl _ w1).drew) ?_
 intro hS
 change wpAnyH _ _ _ _ _ 14 (Array.replicate 14 false) _ (World.drew _)
 generalize w1.drew = wz at hS ⊢

 refine wpAnyH_take (i := 0) (v := ?_) rfl (by kernel_rfl) (by kernel_rfl) (by kernel_rfl) (fun _ _ _ h => h) (Or.inl ⟨by rfl, ?_⟩) hS ?_
 rotate_left 1
 ·intro wq hq
  have qh := HHD.out wq hq
  go_simp; (try with_reducible rfl)
 try simp only [Act.put, w1z, w2z, w4z, w5z, w6z]

 refine wpAnyH_take (i := 1) (v := ?_) rfl (by kernel_rfl) (by kernel_rfl) (by kernel_rfl) (fun _ _ _ h => h) (Or.inl ⟨by rfl, ?_⟩) hS ?_
 rotate_left 1
 ·intro wq hq
  have qh := HHD.out wq hq
  go_simp; (try with_reducible rfl)
 try simp only [Act.put, w1z, w2z, w3z, w4z, w5z, w6z]

 refine wpAnyH_take (i := 2) (v := ?_) rfl (by kernel_rfl) (by kernel_rfl) (by kernel_rfl) (fun _ _ _ h => h) (Or.inl ⟨by rfl, ?_⟩) hS ?_
 rotate_left 1
 ·intro wq hq
  have qh := HHD.out wq hq
  go_simp; (try with_reducible rfl)
 try simp only [Act.put, w1z, w2z, w3z, w4z, w5z, w6z]

 refine wpAnyH_take (i := 3) rfl (by kernel_rfl) (by kernel_rfl) (by kernel_rfl) (fun _ _ _ h => h) (yieldsIf_load_mid (by rfl) 36 (.tmp 106) rfl g 258 rfl cy _ (fun w' h => HRY.out w' h) Tryz.underlying36 rfl HIY.out) hS ?_
 try simp only [Act.put, w1z, w2z, w3z, w4z, w5z, w6z]

 refine wpAnyH_take (i := 4) (v := ?_) rfl (by kernel_rfl) (by kernel_rfl) (by kernel_rfl) (fun _ _ _ h => h) (Or.inl ⟨by rfl, ?_⟩) hS ?_
 rotate_left 1
 ·intro wq hq
  have qh := HHD.out wq hq
  go_simp; (try with_reducible rfl)
 try simp only [Act.put, w1z, w2z, w3z, w4z, w5z, w6z]

 refine wpAnyH_take (i := 5) (v := ?_) rfl (by kernel_rfl) (by kernel_rfl) (by kernel_rfl) (fun _ _ _ h => h) (Or.inl ⟨by rfl, ?_⟩) hS ?_
 rotate_left 1
 ·intro wq hq
  have qh := HHD.out wq hq
  go_simp; (try with_reducible rfl)
 try simp only [Act.put, w1z, w2z, w3z, w4z, w5z, w6z]

 refine wpAnyH_take (i := 6) (v := ?_) rfl (by kernel_rfl) (by kernel_rfl) (by kernel_rfl) (fun _ _ _ h => h) (Or.inl ⟨by rfl, ?_⟩) hS ?_
 rotate_left 1
 ·intro wq hq
  have qh := HHD.out wq hq
  go_simp; (try with_reducible rfl)
 try simp only [Act.put, w1z, w2z, w3z, w4z, w5z, w6z]

 refine wpAnyH_take (i := 7) (v := ?_) rfl (by kernel_rfl) (by kernel_rfl) (by kernel_rfl) (fun _ _ _ h => h) (Or.inl ⟨by rfl, ?_⟩) hS ?_
 rotate_left 1
 ·intro wq hq
  have qh := HHD.out wq hq
  go_simp; (try with_reducible rfl)
 try simp only [Act.put, w1z, w2z, w3z, w4z, w5z, w6z]

 refine wpAnyH_take (i := 8) rfl (by kernel_rfl) (by kernel_rfl) (by kernel_rfl) (fun _ _ _ h => h) (yieldsIf_load_mid (by rfl) 36 (.tmp 111) rfl g 0 rfl cx _ (fun w' h => HRX.out w' h) Tryz.underlying36 rfl HIX.out) hS ?_
 try simp only [Act.put, w1z, w2z, w3z, w4z, w5z, w6z]

 refine wpAnyH_take (i := 9) (v := ?_) rfl (by kernel_rfl) (by kernel_rfl) (by kernel_rfl) (fun _ _ _ h => h) (Or.inl ⟨by rfl, ?_⟩) hS ?_
 rotate_left 1
 ·intro wq hq
  have qh := HHD.out wq hq
  go_simp; (try with_reducible rfl)
 try simp only [Act.put, w1z, w2z, w3z, w4z, w5z, w6z]

 refine wpAnyH_take (i := 10) (v := ?_) rfl (by kernel_rfl) (by kernel_rfl) (by kernel_rfl) (fun _ _ _ h => h) (Or.inl ⟨by rfl, ?_⟩) hS ?_
 rotate_left 1
 ·intro wq hq
  have qh := HHD.out wq hq
  go_simp; (try with_reducible rfl)
 try simp only [Act.put, w1z, w2z, w3z, w4z, w5z, w6z]

 refine wpAnyH_ready (rs := [11]) (by kernel_rfl) (by simp) ?_
 refine AllReadyH.cons rfl (fun K' hK => ?_) AllReadyH.nil
 go_simp
 go_at_call 51
 refine (iha _ cx t F n f (HVX.out _ hS) ht HN.out (HF1.out _ hS)).mono ?_
 rintro e wy1 ⟨O1, o1, rfl, hO1, hE1, hby1, hOl1⟩
 have HE1 := zh (And.intro hO1 (And.intro hE1 hby1))
 refine hK.out _ _ (below_tr hS hby1 hS.size) (fun hS => ?_)
 clear hK K' hO1 hE1 hby1
 try simp only [Act.put, w1z, w2z, w3z, w4z, w5z, w6z]

 refine wpAnyH_ready (rs := [12]) (by kernel_rfl) (by simp) ?_
 refine AllReadyH.cons rfl (fun K' hK => ?_) AllReadyH.nil
 go_simp
 go_at_call 51
 have hSl := hS.size
 refine (ihb _ cy t O1 n o1 (HVY.out _ hS) ht HN.out HE1.out.1).mono ?_
 rintro e wy2 ⟨O2, o2, rfl, hO2, hE2, hby2, hOl2⟩
 have HE2 := zh (And.intro hO2 (And.intro hE2 hby2))
 refine hK.out _ _ (below_tr hS hby2 hS.size) (fun hS => ?_)
 clear hK K' hO2 hE2 hby2
 try simp only [Act.put, w1z, w2z, w3z, w4z, w5z, w6z]

 refine wpAnyH_take (i := 13) (v := ?_) rfl (by kernel_rfl) (by kernel_rfl) (by kernel_rfl) (fun _ _ _ h => h) (Or.inl ⟨by rfl, ?_⟩) hS ?_
 rotate_left 1
 ·intro wq hq
  have qh := HHD.out wq hq
  go_simp; (try with_reducible rfl)
 try simp only [Act.put, w1z, w2z, w3z, w4z, w5z, w6z]

 refine wpAnyH_done (by kernel_rfl) ?_ _
 have HS := zh hS
 clear hS
 go_wp2_with fail
 go_ret
 exact ⟨O2, o2, rfl, HE2.out.1, En_cat HE1.out.2.1 HE2.out.2.1, below_tr HB1.out HS.out HB1.out.size, Nat.le_trans (Nat.le_trans HB1.out.size hSl) hOl2⟩

end Go.Proofs.YtejdfpieblkapaaGreatDoor

/- Carried from another seat. -/
namespace Go.Proofs.YtejdfpieblkapaaGreatDoor
open Lib renaming hid → zh
open List renaming getElem_toArray → w1z, getElem_cons_zero → w2z, getElem_cons_succ → w3z, setIfInBounds_toArray → w4z, set_cons_zero → w5z, set_cons_succ → w6z
open Go.RowKit Go.Shelf

theorem cp4 {ops : Array Oper} {rest : List Oper} {op : Oper} {a : Act} {w : World} {Q : Exit → Act → World → Prop} (hg : op.guard = none) (d s : Operand) (ho : op.op = .call { callee := .builtin .copy, args := #[d, s], argTypes := #[67, 67] }) (O F n : Nat) (f o : Nat → Bool) (hd : a.eval d = .slice (some ⟨O, 0, none⟩) n n) (hs : a.eval s = .slice (some ⟨F, 0, none⟩) n n) (hO : BlR w O n o) (hF : BlR w F n f)
  (h : ∀ w', BlR w' O n f → Kb (fun i => i = O) w w' → wpList Tryz.prog ops Q rest (a.put op.dst (goInt n)) w') : wpList Tryz.prog ops Q (op :: rest) a w := by
 obtain ⟨cur, h1, h2, h3⟩ := hO
 obtain ⟨i0, hi0, hz0, hz1, hz2⟩ := info_parts Tryz.info4
 have hl : ((List.range n).map fun k => Value.bool (f k)).length = n := by simp
 refine wpList_copy_own hg d s 67 67 ho 4 Tryz.underlying67 (by rw [hi0]; simp [hz1]) O 0 n n ⟨F, 0, none⟩ n n hd hs cur 4 h1 ((List.range n).map fun k => Value.bool (f k)) (by rw [hl]; exact (Nat.min_self n).symm) (fun k v hv => ?_) (by rw [hl]; omega) (fun v hv => by obtain ⟨k, _, rfl⟩ := List.mem_map.1 hv; rfl) ?_
 ·have hk : k < n := by have := (List.getElem?_eq_some_iff.1 hv).1; rwa [hl] at this
  rw [Addr.add_mid, Nat.zero_add, (hF.cell hk).1]
  simpa [hk] using hv
 ·rw [hl]
  have e : (List.take 0 cur.toList ++ ((List.range n).map (fun k => Value.bool (f k)) ++ List.drop (0 + n) cur.toList)).toArray = ((List.range n).map fun k => Value.bool (f k)).toArray := by
   have e2 : List.drop (0 + n) cur.toList = [] := List.drop_of_length_le (by simp [h2])
   rw [e2, List.append_nil]
   rfl
  rw [e]
  exact h _ ⟨_, setRow_heap w O cur _ 4 (0, 0) h1, by simp, fun k hk => by simp [hk]⟩ (setRow_kb w O _)

set_option maxRecDepth 100000 in
set_option maxHeartbeats 1000000 in
theorem ends_empty : EndsOk .empty := by
 intro w cs t F n f h ht hn hF
 have hcs : cs = RfC 1 noB (.slice none 0 0) := h
 clear h
 have hb0 : Below w.heap.size w (w.alloc (.cells cs.toArray 36)) := (Below.refl _ w).alloc (Nat.le_refl _) _
 have hblk := heap_alloc_new w (.cells cs.toArray 36)
 have p1 : IntKind.i64.wrap ((t.size : Int) + 1) = (n : Int) := by rw [hn, IntWalk.i64_in _ (by omega)]; omega
 obtain ⟨i0, hi0, hz0, hz1, hz2⟩ := info_parts Tryz.info4
 have HI := zh hi0; have HZ0 := zh hz0; have HZ1 := zh hz1; have HZ2 := zh hz2
 clear hi0 hz0 hz1 hz2
 have hnb : n ≤ 10001 := by omega
 have hb1 := hb0.alloc (show w.heap.size ≤ (w.alloc (.cells cs.toArray 36)).heap.size by simp) (.cells (madeCells #[.bool false] n) 4)
 have hO := BlR.made (w.alloc (.cells cs.toArray 36)) n
 have hsz : (w.alloc (.cells cs.toArray 36)).heap.size = w.heap.size + 1 := by simp
 rw [hsz] at hO
 have hB := (Below.heap_alloc (w.alloc (.cells cs.toArray 36)) (.cells (madeCells #[.bool false] n) 4) w.heap.size (by simp)).trans hblk
 have c0 : ((w.alloc (.cells cs.toArray 36)).alloc (.cells (madeCells #[.bool false] n) 4)).cell? ⟨w.heap.size, 0, none⟩ = some (.int .i64 1) := by rw [Lib.cell_of_heap hB, hcs]; rfl
 have HCS := zh hcs; have HF := zh hF; have HN := zh hn; have HB1 := zh hb1; have HO := zh hO; have HBk := zh hB
 clear hcs hF hn hb0 hblk hb1 hO hB hsz
 go_enter Tryz.func51, Tryz.ntmps51
 go_upto_region 21 with (at_make; refine wpList_make_row _ rfl _ _ 67 rfl 4 i0 (.bool false) Tryz.underlying67 HI.out HZ0.out HZ1.out rfl .i64 .i64 n rfl rfl (by rw [HZ2.out]; omega) (by omega) ?_)
 generalize (w.alloc (.cells cs.toArray 36)).alloc (.cells (madeCells #[.bool false] n) 4) = w1 at c0 HB1 HO HBk ⊢

 have HF1 := zh (HF.out.below HB1.out)
 go_wp2_with (refine cp4 rfl _ _ rfl (w.heap.size + 1) F n f (fun _ => false) rfl rfl HO.out HF1.out ?_)
 intro w5 hb5 hk5
 have HH := zh (show EnF .empty t.data.toList n f w (.returned (.slice (some ⟨w.heap.size + 1, 0, none⟩) n n)) w5 from ⟨_, f, rfl, hb5, En_empty _ f, HB1.out.trans (hk5.below HB1.out.size (fun i hi => by omega)), by omega⟩)
 clear hb5 hk5
 go_wp2_with fail
 go_ret
 exact HH.out

set_option maxRecDepth 100000 in
set_option maxHeartbeats 2000000 in
theorem ends_or (a b : Rx) (iha : EndsOk a) (ihb : EndsOk b) : EndsOk (.or a b) := by
 intro w cs t F n f h ht hn hF
 obtain ⟨g, fz, cx, cy, hcs, hg, hvx, hvy⟩ := h
 have hb0 : Below w.heap.size w (w.alloc (.cells cs.toArray 36)) := (Below.refl _ w).alloc (Nat.le_refl _) _
 have hblk := heap_alloc_new w (.cells cs.toArray 36)
 have p1 : IntKind.i64.wrap ((t.size : Int) + 1) = (n : Int) := by rw [hn, IntWalk.i64_in _ (by omega)]; omega
 obtain ⟨i0, hi0, hz0, hz1, hz2⟩ := info_parts Tryz.info4
 have HI := zh hi0; have HZ0 := zh hz0; have HZ1 := zh hz1; have HZ2 := zh hz2
 clear hi0 hz0 hz1 hz2
 have hnb : n ≤ 10001 := by omega
 have hb1 := hb0.alloc (show w.heap.size ≤ (w.alloc (.cells cs.toArray 36)).heap.size by simp) (.cells (madeCells #[.bool false] n) 4)
 have hO := BlR.made (w.alloc (.cells cs.toArray 36)) n
 have hsz : (w.alloc (.cells cs.toArray 36)).heap.size = w.heap.size + 1 := by simp
 rw [hsz] at hO
 have hB := (Below.heap_alloc (w.alloc (.cells cs.toArray 36)) (.cells (madeCells #[.bool false] n) 4) w.heap.size (by simp)).trans hblk
 have c0 : ((w.alloc (.cells cs.toArray 36)).alloc (.cells (madeCells #[.bool false] n) 4)).cell? ⟨w.heap.size, 0, none⟩ = some (.int .i64 3) := by rw [Lib.cell_of_heap hB, hcs]; rfl
 have HCS := zh hcs; have HF := zh hF; have HN := zh hn; have HB1 := zh hb1; have HO := zh hO; have HBk := zh hB
 clear hcs hF hn hb0 hblk hb1 hO hB hsz
 go_enter Tryz.func51, Tryz.ntmps51
 go_upto_region 25 with (at_make; refine wpList_make_row _ rfl _ _ 67 rfl 4 i0 (.bool false) Tryz.underlying67 HI.out HZ0.out HZ1.out rfl .i64 .i64 n rfl rfl (by rw [HZ2.out]; omega) (by omega) ?_)
 generalize (w.alloc (.cells cs.toArray 36)).alloc (.cells (madeCells #[.bool false] n) 4) = w1 at c0 HB1 HO HBk ⊢
 have hgl := lt_of_heap hg
 have hg1 := (HB1.out.block g hgl).trans hg
 have HRX := zh (show ∀ w', Below w1.heap.size w1 w' → w'.rangeAt g 0 cx from fun w' hb => range_left (row_range ((hb.block g (lt_of_heap hg1)).trans hg1)))
 have HRY := zh (show ∀ w', Below w1.heap.size w1 w' → w'.rangeAt g 258 cy from fun w' hb => by
  have := range_right (row_range ((hb.block g (lt_of_heap hg1)).trans hg1))
  rwa [hvx.len, Nat.zero_add] at this)
 have HHD := zh (show ∀ w', Below w1.heap.size w1 w' → w'.cell? ⟨w.heap.size, 257, none⟩ = some (.slice (some ⟨g, 0, none⟩) 2 2) from fun w' hb => by
  rw [hb.cell (p := ⟨w.heap.size, 257, none⟩) (lt_of_heap HBk.out), Lib.cell_of_heap HBk.out]
  show cs.toArray[257]? = _
  rw [List.getElem?_toArray, HCS.out]; exact RfC_last _ _ noB_len)
 have HVX := zh (show ∀ w', Below w1.heap.size w1 w' → RfV w' a cx from fun w' hb => (hvx.below HB1.out).below hb)
 have HVY := zh (show ∀ w', Below w1.heap.size w1 w' → RfV w' b cy from fun w' hb => (hvy.below HB1.out).below hb)
 have HIX := zh (show (Tryz.prog.info? 36).map (·.size) = some cx.length by rw [hvx.len]; exact Tryz.info36)
 have HIY := zh (show (Tryz.prog.info? 36).map (·.size) = some cy.length by rw [hvy.len]; exact Tryz.info36)
 have HF1 := zh (show ∀ w', Below w1.heap.size w1 w' → BlR w' F n f from fun w' hb => (HF.out.below HB1.out).below hb)
 clear hg hgl hg1 hvx hvy c0
 refine wp_region_held_drew (S := fun w' => Below w1.heap.size w1 w') (by kernel_rfl) ((Below.refl _ w1).drew) ?_
 intro hS
 change wpAnyH _ _ _ _ _ 16 (Array.replicate 16 false) _ (World.drew _)
 generalize w1.drew = wz at hS ⊢

 refine wpAnyH_take (i := 0) (v := ?_) rfl (by kernel_rfl) (by kernel_rfl) (by kernel_rfl) (fun _ _ _ h => h) (Or.inl ⟨by rfl, ?_⟩) hS ?_
 rotate_left 1
 ·intro wq hq
  have qh := HHD.out wq hq
  go_simp; (try with_reducible rfl)
 try simp only [Act.put, w1z, w2z, w4z, w5z, w6z]

 refine wpAnyH_take (i := 1) (v := ?_) rfl (by kernel_rfl) (by kernel_rfl) (by kernel_rfl) (fun _ _ _ h => h) (Or.inl ⟨by rfl, ?_⟩) hS ?_
 rotate_left 1
 ·intro wq hq
  have qh := HHD.out wq hq
  go_simp; (try with_reducible rfl)
 try simp only [Act.put, w1z, w2z, w3z, w4z, w5z, w6z]

 refine wpAnyH_take (i := 2) (v := ?_) rfl (by kernel_rfl) (by kernel_rfl) (by kernel_rfl) (fun _ _ _ h => h) (Or.inl ⟨by rfl, ?_⟩) hS ?_
 rotate_left 1
 ·intro wq hq
  have qh := HHD.out wq hq
  go_simp; (try with_reducible rfl)
 try simp only [Act.put, w1z, w2z, w3z, w4z, w5z, w6z]

 refine wpAnyH_take (i := 3) rfl (by kernel_rfl) (by kernel_rfl) (by kernel_rfl) (fun _ _ _ h => h) (yieldsIf_load_mid (by rfl) 36 (.tmp 121) rfl g 0 rfl cx _ (fun w' h => HRX.out w' h) Tryz.underlying36 rfl HIX.out) hS ?_
 try simp only [Act.put, w1z, w2z, w3z, w4z, w5z, w6z]

 refine wpAnyH_take (i := 4) (v := ?_) rfl (by kernel_rfl) (by kernel_rfl) (by kernel_rfl) (fun _ _ _ h => h) (Or.inl ⟨by rfl, ?_⟩) hS ?_
 rotate_left 1
 ·intro wq hq
  have qh := HHD.out wq hq
  go_simp; (try with_reducible rfl)
 try simp only [Act.put, w1z, w2z, w3z, w4z, w5z, w6z]

 refine wpAnyH_take (i := 5) (v := ?_) rfl (by kernel_rfl) (by kernel_rfl) (by kernel_rfl) (fun _ _ _ h => h) (Or.inl ⟨by rfl, ?_⟩) hS ?_
 rotate_left 1
 ·intro wq hq
  have qh := HHD.out wq hq
  go_simp; (try with_reducible rfl)
 try simp only [Act.put, w1z, w2z, w3z, w4z, w5z, w6z]

 refine wpAnyH_take (i := 7) (v := ?_) rfl (by kernel_rfl) (by kernel_rfl) (by kernel_rfl) (fun _ _ _ h => h) (Or.inl ⟨by rfl, ?_⟩) hS ?_
 rotate_left 1
 ·intro wq hq
  have qh := HHD.out wq hq
  go_simp; (try with_reducible rfl)
 try simp only [Act.put, w1z, w2z, w3z, w4z, w5z, w6z]

 refine wpAnyH_take (i := 8) (v := ?_) rfl (by kernel_rfl) (by kernel_rfl) (by kernel_rfl) (fun _ _ _ h => h) (Or.inl ⟨by rfl, ?_⟩) hS ?_
 rotate_left 1
 ·intro wq hq
  have qh := HHD.out wq hq
  go_simp; (try with_reducible rfl)
 try simp only [Act.put, w1z, w2z, w3z, w4z, w5z, w6z]

 refine wpAnyH_take (i := 9) (v := ?_) rfl (by kernel_rfl) (by kernel_rfl) (by kernel_rfl) (fun _ _ _ h => h) (Or.inl ⟨by rfl, ?_⟩) hS ?_
 rotate_left 1
 ·intro wq hq
  have qh := HHD.out wq hq
  go_simp; (try with_reducible rfl)
 try simp only [Act.put, w1z, w2z, w3z, w4z, w5z, w6z]

 refine wpAnyH_take (i := 10) rfl (by kernel_rfl) (by kernel_rfl) (by kernel_rfl) (fun _ _ _ h => h) (yieldsIf_load_mid (by rfl) 36 (.tmp 128) rfl g 258 rfl cy _ (fun w' h => HRY.out w' h) Tryz.underlying36 rfl HIY.out) hS ?_
 try simp only [Act.put, w1z, w2z, w3z, w4z, w5z, w6z]

 refine wpAnyH_take (i := 11) (v := ?_) rfl (by kernel_rfl) (by kernel_rfl) (by kernel_rfl) (fun _ _ _ h => h) (Or.inl ⟨by rfl, ?_⟩) hS ?_
 rotate_left 1
 ·intro wq hq
  have qh := HHD.out wq hq
  go_simp; (try with_reducible rfl)
 try simp only [Act.put, w1z, w2z, w3z, w4z, w5z, w6z]

 refine wpAnyH_take (i := 12) (v := ?_) rfl (by kernel_rfl) (by kernel_rfl) (by kernel_rfl) (fun _ _ _ h => h) (Or.inl ⟨by rfl, ?_⟩) hS ?_
 rotate_left 1
 ·intro wq hq
  have qh := HHD.out wq hq
  go_simp; (try with_reducible rfl)
 try simp only [Act.put, w1z, w2z, w3z, w4z, w5z, w6z]
 have hSl := hS.size

 refine wpAnyH_ready (rs := [6]) (by kernel_rfl) (by simp) ?_
 refine AllReadyH.cons rfl (fun K' hK => ?_) AllReadyH.nil
 go_simp
 go_at_call 51
 refine (iha _ cx t F n f (HVX.out _ hS) ht HN.out (HF1.out _ hS)).mono ?_
 rintro e wy1 ⟨O1, o1, rfl, hO1, hE1, hby1, hOl1⟩
 have HE1 := zh (And.intro hO1 (And.intro hE1 hby1))
 refine hK.out _ _ (below_tr hS hby1 hS.size) (fun hS => ?_)
 clear hK K' hO1 hE1 hby1
 try simp only [Act.put, w1z, w2z, w3z, w4z, w5z, w6z]
 have hSl2 := hS.size

 refine wpAnyH_ready (rs := [13]) (by kernel_rfl) (by simp) ?_
 refine AllReadyH.cons rfl (fun K' hK => ?_) AllReadyH.nil
 go_simp
 go_at_call 51
 refine (ihb _ cy t F n f (HVY.out _ hS) ht HN.out (HF1.out _ hS)).mono ?_
 rintro e wy2 ⟨O2, o2, rfl, hO2, hE2, hby2, hOl2⟩
 have HE2 := zh (And.intro hO2 (And.intro hE2 hby2))
 refine hK.out _ _ (below_tr hS hby2 hS.size) (fun hS => ?_)
 clear hK K' hO2 hE2 hby2
 try simp only [Act.put, w1z, w2z, w3z, w4z, w5z, w6z]

 refine wpAnyH_take (i := 14) (v := ?_) rfl (by kernel_rfl) (by kernel_rfl) (by kernel_rfl) (fun _ _ _ h => h) (Or.inl ⟨by rfl, ?_⟩) hS ?_
 rotate_left 1
 ·intro wq hq
  have qh := HHD.out wq hq
  go_simp; (try with_reducible rfl)
 try simp only [Act.put, w1z, w2z, w3z, w4z, w5z, w6z]

 refine wpAnyH_take (i := 15) (v := ?_) rfl (by kernel_rfl) (by kernel_rfl) (by kernel_rfl) (fun _ _ _ h => h) (Or.inl ⟨by rfl, ?_⟩) hS ?_
 rotate_left 1
 ·intro wq hq
  have qh := HHD.out wq hq
  go_simp; (try with_reducible rfl)
 try simp only [Act.put, w1z, w2z, w3z, w4z, w5z, w6z]

 refine wpAnyH_done (by kernel_rfl) ?_ _
 have hOo := HO.out.lt
 have hne1 : w.heap.size + 1 ≠ O1 := by omega
 have hne2 : w.heap.size + 1 ≠ O2 := by omega
 have HST := zh (show BlR wy2 (w.heap.size + 1) n (fun _ => false) ∧ BlR wy2 O1 n o1 ∧ BlR wy2 O2 n o2 ∧ Below w.heap.size w wy2 from ⟨HO.out.below hS, HE1.out.1.below HE2.out.2.2, HE2.out.1, below_tr HB1.out hS HB1.out.size⟩)
 have HEA := zh HE1.out.2.1; have HEB := zh HE2.out.2.1
 clear hS HE1 HE2
 go_wp2_with fail
 go_loopw [11] (fun v wr => ∃ (k : Nat) (o : Nat → Bool), k ≤ n ∧ v = .int .i64 k ∧ Hid (BlR wr (w.heap.size + 1) n o ∧ (∀ i, i < k → o i = (o1 i || o2 i)) ∧ BlR wr O1 n o1 ∧ BlR wr O2 n o2 ∧ Below w.heap.size w wr)) (fun v _ => n - (intOf v).toNat)
 case atStart => exact ⟨0, fun _ => false, by omega, rfl, HST.out.1, (fun i hi => by omega), HST.out.2.1, HST.out.2.2.1, HST.out.2.2.2⟩
 case round =>
  obtain ⟨k, o, hk, rfl, HQ⟩ := hrel
  obtain ⟨q1, q2, q3, q4, q5⟩ := HQ.out
  have hnn := HN.out
  rcases Nat.lt_or_ge k n with hlt | hge
  ·have hki : (k : Int) ≤ t.size := by omega
   have hk0 : (0 : Int) ≤ k := by omega
   have hkn : (k : Int) < n := by omega
   obtain ⟨x1, _⟩ := q3.cell hlt
   obtain ⟨x2, _⟩ := q4.cell hlt
   obtain ⟨x3, x4⟩ := q1.cell hlt
   obtain ⟨α, hα⟩ : ∃ α, α = o1 k := ⟨_, rfl⟩
   obtain ⟨β, hβ⟩ : ∃ β, β = o2 k := ⟨_, rfl⟩
   rw [← hα] at x1
   rw [← hβ] at x2
   have HFin := zh (fun (v : Bool) (hv : v = (α || β)) => (show BlR (wr.setCell ⟨w.heap.size + 1, k, none⟩ (.bool v)) (w.heap.size + 1) n (fun i => if i = k then v else o i) ∧ (∀ i, i < k + 1 → (if i = k then v else o i) = (o1 i || o2 i)) ∧ BlR (wr.setCell ⟨w.heap.size + 1, k, none⟩ (.bool v)) O1 n o1 ∧ BlR (wr.setCell ⟨w.heap.size + 1, k, none⟩ (.bool v)) O2 n o2 ∧ Below w.heap.size w (wr.setCell ⟨w.heap.size + 1, k, none⟩ (.bool v)) from by
    have kb := Kb.setCell wr ⟨w.heap.size + 1, k, none⟩ (.bool v)
    refine ⟨q1.set k v, fun i hi => ?_, ?_, ?_, q5.trans (kb.below q5.size (fun i hi => by rw [hi]; show w.heap.size ≤ w.heap.size + 1; omega))⟩
    ·by_cases e : i = k
     ·subst e; rw [if_pos rfl, hv, hα, hβ]
     ·rw [if_neg e]; exact q2 i (by omega)
    ·obtain ⟨c1, d1, d2, d3⟩ := q3
     exact ⟨c1, (kb.block O1 (lt_of_heap d1) (fun h => hne1 h.symm)).trans d1, d2, d3⟩
    ·obtain ⟨c1, d1, d2, d3⟩ := q4
     exact ⟨c1, (kb.block O2 (lt_of_heap d1) (fun h => hne2 h.symm)).trans d1, d2, d3⟩))
   clear q1 q2 q3 q4 q5 HQ hα hβ hnn
   cases α <;> (
    go_wp2
    go_roundw
    case rel => exact ⟨k + 1, _, by omega, by go_num, HFin.out _ (by simp)⟩
    case measure => simp [intOf]; omega)
  ·obtain rfl : k = n := by omega
   have hki : ¬ (k : Int) ≤ t.size := by omega
   have hkd : decide ((k : Int) ≤ t.size) = false := decide_eq_false hki
   have HH := zh (show EnF (.or a b) t.data.toList k f w (.returned (.slice (some ⟨w.heap.size + 1, 0, none⟩) k k)) wr from ⟨_, o, rfl, q1, En_or HEA.out HEB.out (fun i hi => q2 i (by rw [← Lib.size_eq] at hi; omega)), q5, by omega⟩)
   clear q1 q2 q3 q4 q5 HQ hnn
   go_wp2_with fail
   go_ret
   exact HH.out
end Go.Proofs.YtejdfpieblkapaaGreatDoor

/- Carried from another seat. -/
namespace Go.Proofs.YtejdfpieblkapaaGreatDoor
open Lib renaming hid → zh
open Go.RowKit Go.Shelf

theorem StS.ext {a : Rx} {T : List UInt8} {F O O' : Nat → Bool} (h : StS a T F O) (he : ∀ i, i ≤ T.length → O i = O' i) : StS a T F O' := ⟨fun i hi hf => by rw [← he i hi]; exact h.1 i hi hf, fun i hi ho => h.2 i hi (by rw [he i hi]; exact ho)⟩
theorem En.ext {r : Rx} {T : List UInt8} {F O O' : Nat → Bool} (h : En r T F O) (he : ∀ i, i ≤ T.length → O i = O' i) : En r T F O' := fun i hi => by rw [← he i hi]; exact h i hi
def jnB (o x : Nat → Bool) (i : Nat) : Nat → Bool := fun p => if p < i then (o p || x p) else o p

set_option maxRecDepth 100000 in
set_option maxHeartbeats 2000000 in
theorem ends_star (a : Rx) (iha : EndsOk a) : EndsOk (.star a) := by
 intro w cs t F n f h ht hn hF
 obtain ⟨g, fz, cx, hcs, hg, hvx⟩ := h
 have hb0 : Below w.heap.size w (w.alloc (.cells cs.toArray 36)) := (Below.refl _ w).alloc (Nat.le_refl _) _
 have hblk := heap_alloc_new w (.cells cs.toArray 36)
 have p1 : IntKind.i64.wrap ((t.size : Int) + 1) = (n : Int) := by rw [hn, IntWalk.i64_in _ (by omega)]; omega
 obtain ⟨i0, hi0, hz0, hz1, hz2⟩ := info_parts Tryz.info4
 have HI := zh hi0; have HZ0 := zh hz0; have HZ1 := zh hz1; have HZ2 := zh hz2
 clear hi0 hz0 hz1 hz2
 have hnb : n ≤ 10001 := by omega
 have hb1 := hb0.alloc (show w.heap.size ≤ (w.alloc (.cells cs.toArray 36)).heap.size by simp) (.cells (madeCells #[.bool false] n) 4)
 have hO := BlR.made (w.alloc (.cells cs.toArray 36)) n
 have hsz : (w.alloc (.cells cs.toArray 36)).heap.size = w.heap.size + 1 := by simp
 rw [hsz] at hO
 have hB := (Below.heap_alloc (w.alloc (.cells cs.toArray 36)) (.cells (madeCells #[.bool false] n) 4) w.heap.size (by simp)).trans hblk
 have c0 : ((w.alloc (.cells cs.toArray 36)).alloc (.cells (madeCells #[.bool false] n) 4)).cell? ⟨w.heap.size, 0, none⟩ = some (.int .i64 4) := by rw [Lib.cell_of_heap hB, hcs]; rfl
 have HCS := zh hcs; have HF := zh hF; have HN := zh hn; have HB1 := zh hb1; have HO := zh hO; have HBk := zh hB
 clear hcs hF hn hb0 hblk hb1 hO hB hsz
 go_enter Tryz.func51, Tryz.ntmps51
 go_upto_region 3 with (at_make; refine wpList_make_row _ rfl _ _ 67 rfl 4 i0 (.bool false) Tryz.underlying67 HI.out HZ0.out HZ1.out rfl .i64 .i64 n rfl rfl (by rw [HZ2.out]; omega) (by omega) ?_)
 generalize (w.alloc (.cells cs.toArray 36)).alloc (.cells (madeCells #[.bool false] n) 4) = w1 at c0 HB1 HO HBk ⊢
 have HF1 := zh (HF.out.below HB1.out)
 have HG := zh (show ∀ w', Below w.heap.size w w' → w'.rangeAt g 0 cx from fun w' hb => row_range ((hb.block g (lt_of_heap hg)).trans hg))
 have HVX := zh (show ∀ w', Below w.heap.size w w' → RfV w' a cx from fun w' hb => hvx.below hb)
 have HHD := zh (show ∀ w' : World, w'.heap[w.heap.size]? = some (.cells cs.toArray 36 (0, 0)) → w'.cell? ⟨w.heap.size, 257, none⟩ = some (.slice (some ⟨g, 0, none⟩) 1 1) from fun w' hb => by
  rw [Lib.cell_of_heap hb]
  show cs.toArray[257]? = _
  rw [List.getElem?_toArray, HCS.out]; exact RfC_last _ _ noB_len)
 have HLX := zh hvx.len
 have HTL := zh (show t.data.toList.length + 1 = n by rw [HN.out, ← Lib.size_eq])
 have hnt : n = t.size + 1 := HN.out
 have hnt1 : n ≤ t.size + 1 := by omega
 have hnt2 : t.size + 1 ≤ n := by omega
 clear hg hvx hnt
 go_wp2_with (refine cp4 rfl _ _ rfl (w.heap.size + 1) F n f (fun _ => false) rfl rfl HO.out HF1.out ?_)
 intro w5 hb5 hk5
 have HST := zh (show BlR w5 (w.heap.size + 1) n f ∧ Below w.heap.size w w5 ∧ w5.heap[w.heap.size]? = some (.cells cs.toArray 36 (0, 0)) from ⟨hb5, HB1.out.trans (hk5.below HB1.out.size (fun i hi => by omega)), (hk5.block _ (lt_of_heap HBk.out) (by omega)).trans HBk.out⟩)
 clear hb5 hk5 c0
 go_wp2_with fail
 go_loopw [12] (fun v wr => ∃ (k : Nat) (o : Nat → Bool), k ≤ n ∧ v = .int .i64 k ∧ Hid (BlR wr (w.heap.size + 1) n o ∧ StS a t.data.toList f o ∧ k ≤ cntT o n ∧ Below w.heap.size w wr ∧ wr.heap[w.heap.size]? = some (.cells cs.toArray 36 (0, 0)))) (fun v _ => n - (intOf v).toNat)
 case atStart => exact ⟨0, f, by omega, rfl, HST.out.1, StS.first _ _ _, Nat.zero_le _, HST.out.2.1, HST.out.2.2⟩
 case round =>
  obtain ⟨k, o, hk, rfl, HQ⟩ := hrel
  obtain ⟨q1, q2, q3, q4, q5⟩ := HQ.out
  rcases Nat.lt_or_ge k n with hlt | hge
  ·have hki : (k : Int) ≤ t.size := by omega
   have hkd : decide ((k : Int) ≤ t.size) = true := decide_eq_true hki
   have hhd := HHD.out wr q5
   have HCA := zh (iha wr cx t (w.heap.size + 1) n o (HVX.out wr q4) ht HN.out q1)
   have HRG := zh (HG.out wr q4)
   have hol := q1.lt
   clear q1 q2 q3 q4 q5
   go_wp2_with (refine ld30 rfl _ rfl g 0 cx rfl HRG.out HLX.out ?_)
   refine HCA.out.mono ?_
   rintro e w6 ⟨O2, x, rfl, hO2, hE, hb6, hOl⟩
   obtain ⟨q1, q2, q3, q4, q5⟩ := HQ.out
   have hne : w.heap.size + 1 ≠ O2 := by omega
   have H6 := zh (show BlR w6 (w.heap.size + 1) n o ∧ BlR w6 O2 n x ∧ Below w.heap.size w w6 ∧ w6.heap[w.heap.size]? = some (.cells cs.toArray 36 (0, 0)) from ⟨q1.below hb6, hO2, below_tr q4 hb6 q4.size, (hb6.block _ (lt_of_heap q5)).trans q5⟩)
   have HE := zh hE; have HSS := zh (And.intro q2 q3)
   clear q1 q2 q3 q4 q5 HQ hO2 hE hb6 HCA HRG hhd hol hOl
   go_wp2_with fail
   go_loopw [14, 15] (fun vm vi wq => ∃ (i : Nat) (m : Bool), i ≤ n ∧ vi = .int .i64 i ∧ vm = .bool m ∧ Hid (BlR wq (w.heap.size + 1) n (jnB o x i) ∧ BlR wq O2 n x ∧ (m = true ↔ ∃ p, p < i ∧ x p = true ∧ o p = false) ∧ Below w.heap.size w wq ∧ wq.heap[w.heap.size]? = some (.cells cs.toArray 36 (0, 0)))) (fun _ vi _ => n - (intOf vi).toNat)
   case atStart =>
    refine ⟨0, false, by omega, rfl, rfl, ?_, H6.out.2.1, ⟨(fun h => by cases h), (fun ⟨p, hp, _⟩ => by omega)⟩, H6.out.2.2.1, H6.out.2.2.2⟩
    have e : jnB o x 0 = o := by funext p; unfold jnB; rw [if_neg (by omega)]
    rw [e]; exact H6.out.1
   case round =>
    obtain ⟨i, m, hi, rfl, rfl, HP⟩ := hrel
    obtain ⟨r1, r2, r3, r4, r5⟩ := HP.out
    rcases Nat.lt_or_ge i n with hil | hig
    ·have hii : (i : Int) ≤ t.size := by omega
     have hi0 : (0 : Int) ≤ i := by omega
     have hin : (i : Int) < n := by omega
     obtain ⟨x1, x2⟩ := r1.cell hil
     obtain ⟨x3, _⟩ := r2.cell hil
     have ej : jnB o x i i = o i := by unfold jnB; rw [if_neg (by omega)]
     rw [ej] at x1
     obtain ⟨α, hα⟩ : ∃ α, α = o i := ⟨_, rfl⟩
     obtain ⟨β, hβ⟩ : ∃ β, β = x i := ⟨_, rfl⟩
     rw [← hα] at x1
     rw [← hβ] at x3
     have HFin := zh (fun (v m' : Bool) (hv : v = (α || β)) (hm : m' = (m || (β && !α))) => (show BlR (wr.setCell ⟨w.heap.size + 1, i, none⟩ (.bool v)) (w.heap.size + 1) n (jnB o x (i + 1)) ∧ BlR (wr.setCell ⟨w.heap.size + 1, i, none⟩ (.bool v)) O2 n x ∧ (m' = true ↔ ∃ p, p < i + 1 ∧ x p = true ∧ o p = false) ∧ Below w.heap.size w (wr.setCell ⟨w.heap.size + 1, i, none⟩ (.bool v)) ∧ (wr.setCell ⟨w.heap.size + 1, i, none⟩ (.bool v)).heap[w.heap.size]? = some (.cells cs.toArray 36 (0, 0)) from by
      have kb := Kb.setCell wr ⟨w.heap.size + 1, i, none⟩ (.bool v)
      refine ⟨?_, ?_, ?_, r4.trans (kb.below r4.size (fun i hi => by rw [hi]; show w.heap.size ≤ w.heap.size + 1; omega)), (kb.block _ (lt_of_heap r5) (by show w.heap.size ≠ w.heap.size + 1; omega)).trans r5⟩
      ·have e : (fun p => if p = i then v else jnB o x i p) = jnB o x (i + 1) := by
        funext p
        unfold jnB
        by_cases e : p = i
        ·subst e; rw [if_pos rfl, if_pos (by omega), hv, hα, hβ]
        ·rw [if_neg e]
         by_cases e2 : p < i
         ·rw [if_pos e2, if_pos (by omega)]
         ·rw [if_neg e2, if_neg (by omega)]
       rw [← e]; exact r1.set i v
      ·obtain ⟨c1, d1, d2, d3⟩ := r2
       exact ⟨c1, (kb.block O2 (lt_of_heap d1) (fun h => hne h.symm)).trans d1, d2, d3⟩
      ·rw [hm, Bool.or_eq_true, r3]
       constructor
       ·rintro (⟨p, h1, h2⟩ | h)
        ·exact ⟨p, by omega, h2⟩
        ·have h' : β = true ∧ α = false := by simpa using h
         exact ⟨i, by omega, by rw [← hβ]; exact h'.1, by rw [← hα]; exact h'.2⟩
       ·rintro ⟨p, h1, h2, h3⟩
        by_cases e : p = i
        ·subst e; right; rw [hβ, hα, h2, h3]; rfl
        ·exact .inl ⟨p, by omega, h2, h3⟩))
     clear r1 r2 r3 r4 r5 HP hα hβ ej
     cases m <;> cases α <;> cases β <;> (
      go_wp2
      go_roundw
      case rel => exact ⟨i + 1, _, by omega, by go_num, rfl, HFin.out _ _ rfl rfl⟩
      case measure => simp [intOf]; omega)
    ·obtain rfl : i = n := by omega
     have hii : ¬ (i : Int) ≤ t.size := by omega
     have hid : decide ((i : Int) ≤ t.size) = false := decide_eq_false hii
     have HJ := zh (show ∀ p, p ≤ t.data.toList.length → jnB o x i p = (o p || x p) from fun p hp => by unfold jnB; rw [if_pos (by have := HTL.out; omega)])
     cases m
     ·have HH := zh (show EnF (.star a) t.data.toList i f w (.returned (.slice (some ⟨w.heap.size + 1, 0, none⟩) i i)) wr from by
       have hc : ∀ p, p ≤ t.data.toList.length → x p = true → o p = true := fun p hp hx => by
        cases ho : o p with
        | true => rfl
        | false => have := r3.2 ⟨p, by have := HTL.out; omega, hx, ho⟩; cases this
       refine ⟨_, _, rfl, r1, (HSS.out.1.closed HE.out hc).ext (fun p hp => ?_), r4, by omega⟩
       rw [HJ.out p hp]
       cases hx : x p with
       | false => simp
       | true => rw [hc p hp hx]; rfl)
      clear r1 r2 r3 r4 r5 HP
      go_wp2_with fail
      go_ret
      exact HH.out
     ·have HH := zh (show BlR wr (w.heap.size + 1) i (jnB o x i) ∧ StS a t.data.toList f (jnB o x i) ∧ k + 1 ≤ cntT (jnB o x i) i ∧ Below w.heap.size w wr ∧ wr.heap[w.heap.size]? = some (.cells cs.toArray 36 (0, 0)) from by
       refine ⟨r1, (HSS.out.1.step HE.out).ext (fun p hp => (HJ.out p hp).symm), ?_, r4, r5⟩
       obtain ⟨p, hp, h2, h3⟩ := r3.1 rfl
       have := cntT_more (O := o) (N := jnB o x i) (n := i) (fun q hq ho => by unfold jnB; rw [if_pos hq, ho]; rfl) hp h3 (by unfold jnB; rw [if_pos hp, h2]; simp)
       have := HSS.out.2
       omega)
      clear r1 r2 r3 r4 r5 HP
      go_wp2_with fail
      go_roundw
      case rel => exact ⟨k + 1, _, by omega, by go_num, HH.out⟩
      case measure => simp [intOf]; omega
  ·obtain rfl : k = n := by omega
   have hki : ¬ (k : Int) ≤ t.size := by omega
   have hkd : decide ((k : Int) ≤ t.size) = false := decide_eq_false hki
   have HH := zh (show EnF (.star a) t.data.toList k f w (.returned (.slice (some ⟨w.heap.size + 1, 0, none⟩) k k)) wr from ⟨_, o, rfl, q1, q2.all (fun p hp => cntT_all q3 p (by have := HTL.out; omega)), q4, by omega⟩)
   clear q1 q2 q3 q4 q5 HQ
   go_wp2_with fail
   go_ret
   exact HH.out

theorem ends_any : ∀ r : Rx, EndsOk r
 | .set s => fun w cs t F n f h ht hn hF => ends_setF s w cs t F n f h ht hn hF
 | .empty => ends_empty
 | .cat a b => ends_cat a b (ends_any a) (ends_any b)
 | .or a b => ends_or a b (ends_any a) (ends_any b)
 | .star a => ends_star a (ends_any a)
end Go.Proofs.YtejdfpieblkapaaGreatDoor
