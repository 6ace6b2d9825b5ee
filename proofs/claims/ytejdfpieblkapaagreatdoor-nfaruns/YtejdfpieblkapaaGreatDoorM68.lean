/- Carried from another seat. -/
import Derived.Test.YtejdfpieblkapaaGreatDoorM62
namespace Go.Proofs.YtejdfpieblkapaaGreatDoor
open Go.RowKit Go.Shelf

/-- What Ends answers, in a block of its own. -/
def EnF (r : Rx) (T : List UInt8) (n : Nat) (f : Nat → Bool) (w : World) (e : Ending) (w' : World) : Prop := ∃ O o, e = .returned (.slice (some ⟨O, 0, none⟩) n n) ∧ BlR w' O n o ∧ En r T f o ∧ Below w.heap.size w w' ∧ w.heap.size ≤ O
def EndsOk (r : Rx) : Prop := ∀ (w : World) (cs : List Value) (t : ByteArray) (F n : Nat) (f : Nat → Bool), RfV w r cs → t.size ≤ 10000 → n = t.size + 1 → BlR w F n f → Calls Tryz.prog 51 #[.agg cs.toArray, .string t, .slice (some ⟨F, 0, none⟩) n n] w (EnF r t.data.toList n f w)
set_option maxRecDepth 100000 in
set_option maxHeartbeats 2000000 in
theorem ends_setF (s : Ws) (w : World) (cs : List Value) (t : ByteArray) (F n : Nat) (f : Nat → Bool) (h : RfV w (.set s) cs) (ht : t.size ≤ 10000) (hn : n = t.size + 1) (hF : BlR w F n f) :
    Calls Tryz.prog 51 #[.agg cs.toArray, .string t, .slice (some ⟨F, 0, none⟩) n n] w (EnF (.set s) t.data.toList n f w) := by
  have hcs : cs = RfC 0 (setB s) (.slice none 0 0) := h
  have hb0 : Below w.heap.size w (w.alloc (.cells cs.toArray 36)) := (Below.refl _ w).alloc (Nat.le_refl _) _
  have hblk := heap_alloc_new w (.cells cs.toArray 36)
  have p1 : IntKind.i64.wrap ((t.size : Int) + 1) = (n : Int) := by rw [hn, IntWalk.i64_in _ (by omega)]; omega
  obtain ⟨i0, hi0, hz0, hz1, hz2⟩ := info_parts Tryz.info4
  have HI := Lib.hid hi0; have HZ0 := Lib.hid hz0; have HZ1 := Lib.hid hz1; have HZ2 := Lib.hid hz2
  clear hi0 hz0 hz1 hz2
  have HCS := Lib.hid hcs; have HF := Lib.hid hF; have HN := Lib.hid hn; have HB0 := Lib.hid hb0; have HBL := Lib.hid hblk
  have hnb : n ≤ 10001 := by omega
  clear h hcs hF hb0 hblk hn
  have hb1 := HB0.out.alloc (show w.heap.size ≤ (w.alloc (.cells cs.toArray 36)).heap.size by simp) (.cells (madeCells #[.bool false] n) 4)
  have hO := BlR.made (w.alloc (.cells cs.toArray 36)) n
  have hsz : (w.alloc (.cells cs.toArray 36)).heap.size = w.heap.size + 1 := by simp
  rw [hsz] at hO
  have hB := (Below.heap_alloc (w.alloc (.cells cs.toArray 36)) (.cells (madeCells #[.bool false] n) 4) w.heap.size (by simp)).trans HBL.out
  have c0 : ((w.alloc (.cells cs.toArray 36)).alloc (.cells (madeCells #[.bool false] n) 4)).cell? ⟨w.heap.size, 0, none⟩ = some (.int .i64 0) := by rw [Lib.cell_of_heap hB, HCS.out]; rfl
  have HB1 := Lib.hid hb1; have HO := Lib.hid hO; have HBk := Lib.hid hB
  clear hb1 hO hB hsz
  go_enter Tryz.func51, Tryz.ntmps51
  go_wp2_with (at_make; refine wpList_make_row _ rfl _ _ 67 rfl 4 i0 (.bool false) Tryz.underlying67 HI.out HZ0.out HZ1.out rfl .i64 .i64 n rfl rfl (by rw [HZ2.out]; omega) (by omega) ?_)
  generalize (w.alloc (.cells cs.toArray 36)).alloc (.cells (madeCells #[.bool false] n) 4) = w1 at c0 HB1 HO HBk ⊢
  go_loopw [8] (fun vi wr => ∃ (k : Nat) (o : Nat → Bool), k ≤ t.size ∧ vi = .int .i64 k ∧ Hid (BlR wr (w.heap.size + 1) n o ∧ o 0 = false ∧ (∀ i (x : UInt8), i < k → t.data.toList[i]? = some x → o (i + 1) = (f i && s.has x)) ∧ Below w.heap.size w wr ∧ wr.heap[w.heap.size]? = some (.cells cs.toArray 36 (0, 0)))) (fun vi _ => t.size - (intOf vi).toNat)
  case atStart => exact ⟨0, fun _ => false, Nat.zero_le _, rfl, HO.out, rfl, fun i x hi => by omega, HB1.out, HBk.out⟩
  case round =>
    obtain ⟨k, o, hk, rfl, HQ⟩ := hrel
    obtain ⟨q1, q2, q3, q4, q5⟩ := HQ.out
    by_cases hlt : k < t.size
    · have hki : (k : Int) < t.size := by omega
      have hk0 : (0 : Int) ≤ k := by omega
      have hnn := HN.out
      have hFk := ((HF.out.below q4).cell (k := k) (by omega)).1
      obtain ⟨k1, hk1⟩ : ∃ k1, k1 = k + 1 := ⟨_, rfl⟩
      obtain ⟨hOk, hOf⟩ := q1.cell (k := k1) (by omega)
      have hkn : (k : Int) < n := by omega
      have hk1n : (k1 : Int) < n := by omega
      have hk10 : (0 : Int) ≤ k1 := by omega
      have p2 : IntKind.i64.wrap ((k : Int) + 1) = (k1 : Int) := by rw [hk1, IntWalk.i64_in _ (by omega)]; omega
      have hxl := t[k].toNat_lt
      have hxi : ((t[k].toNat : Nat) : Int) < 256 := by omega
      have hget : t.data.toList[k]? = some t[k] := by
        rw [List.getElem?_eq_getElem (by rw [← Lib.size_eq]; exact hlt)]; simp; rfl
      have hBk : wr.cell? ⟨w.heap.size, 1 + t[k].toNat, none⟩ = some (.bool (s.has t[k])) := by
        rw [Lib.cell_of_heap q5]
        show cs.toArray[1 + t[k].toNat]? = _
        rw [List.getElem?_toArray, HCS.out, setB_get s (by omega)]; rfl
      obtain ⟨b, hb⟩ : ∃ b, b = s.has t[k] := ⟨_, rfl⟩
      rw [← hb] at hBk
      obtain ⟨a, ha⟩ : ∃ a, a = f k := ⟨_, rfl⟩
      rw [← ha] at hFk
      have HFin := Lib.hid (fun (v : Bool) (hv : v = (a && b)) => (show BlR (wr.setCell ⟨w.heap.size + 1, k1, none⟩ (.bool v)) (w.heap.size + 1) n (fun i => if i = k1 then v else o i) ∧ (fun i => if i = k1 then v else o i) 0 = false ∧ (∀ i (x : UInt8), i < k1 → t.data.toList[i]? = some x → (fun i => if i = k1 then v else o i) (i + 1) = (f i && s.has x)) ∧ Below w.heap.size w (wr.setCell ⟨w.heap.size + 1, k1, none⟩ (.bool v)) ∧ (wr.setCell ⟨w.heap.size + 1, k1, none⟩ (.bool v)).heap[w.heap.size]? = some (.cells cs.toArray 36 (0, 0)) from by
        refine ⟨q1.set k1 v, by show (if 0 = k1 then v else o 0) = false; rw [if_neg (by omega)]; exact q2, fun i x hi hx => ?_, q4.trans ((Kb.setCell wr ⟨w.heap.size + 1, k1, none⟩ _).below q4.size (fun i hi => by rw [hi]; show w.heap.size ≤ w.heap.size + 1; omega)), (Below.heap_setCell wr ⟨w.heap.size + 1, k1, none⟩ _ _ (by show w.heap.size ≠ w.heap.size + 1; omega)).trans q5⟩
        show (if i + 1 = k1 then v else o (i + 1)) = _
        by_cases e : i = k
        · subst e
          rw [if_pos hk1.symm, hv, ha, hb]
          rw [hget] at hx
          injection hx with hx
          rw [hx]
        · rw [if_neg (by omega)]
          exact q3 i x (by omega) hx))
      have HK1 := Lib.hid hk1
      clear q1 q2 q3 q4 q5 hget hb ha HQ hk1 hnn
      cases a <;> (
        go_wp2
        go_roundw
        case rel => exact ⟨k1, _, by have := HK1.out; omega, rfl, HFin.out _ (by simp)⟩
        case measure => have := HK1.out; simp [intOf]; omega)
    · obtain rfl : k = t.size := by omega
      have hen : En (.set s) t.data.toList f o := En_set s _ f o q2 (fun i x hx => q3 i x (by have := (List.getElem?_eq_some_iff.1 hx).1; rw [← Lib.size_eq] at this; exact this) hx)
      have HE := Lib.hid (show EnF (.set s) t.data.toList n f w (.returned (.slice (some ⟨w.heap.size + 1, 0, none⟩) n n)) wr from ⟨_, o, rfl, q1, hen, q4, by omega⟩)
      clear q1 q2 q3 q4 q5 hen HQ
      go_wp2
      go_ret
      exact HE.out

set_option maxRecDepth 100000 in
set_option maxHeartbeats 1000000 in
theorem ends_cat (a b : Rx) (iha : EndsOk a) (ihb : EndsOk b) : EndsOk (.cat a b) := by
  intro w cs t F n f h ht hn hF
  obtain ⟨g, fz, cx, cy, hcs, hg, hvx, hvy⟩ := h
  have hb0 : Below w.heap.size w (w.alloc (.cells cs.toArray 36)) := (Below.refl _ w).alloc (Nat.le_refl _) _
  have hblk := heap_alloc_new w (.cells cs.toArray 36)
  have p1 : IntKind.i64.wrap ((t.size : Int) + 1) = (n : Int) := by rw [hn, IntWalk.i64_in _ (by omega)]; omega
  obtain ⟨i0, hi0, hz0, hz1, hz2⟩ := info_parts Tryz.info4
  have HI := Lib.hid hi0; have HZ0 := Lib.hid hz0; have HZ1 := Lib.hid hz1; have HZ2 := Lib.hid hz2
  clear hi0 hz0 hz1 hz2
  have hnb : n ≤ 10001 := by omega
  have hb1 := hb0.alloc (show w.heap.size ≤ (w.alloc (.cells cs.toArray 36)).heap.size by simp) (.cells (madeCells #[.bool false] n) 4)
  have hO := BlR.made (w.alloc (.cells cs.toArray 36)) n
  have hsz : (w.alloc (.cells cs.toArray 36)).heap.size = w.heap.size + 1 := by simp
  rw [hsz] at hO
  have hB := (Below.heap_alloc (w.alloc (.cells cs.toArray 36)) (.cells (madeCells #[.bool false] n) 4) w.heap.size (by simp)).trans hblk
  have c0 : ((w.alloc (.cells cs.toArray 36)).alloc (.cells (madeCells #[.bool false] n) 4)).cell? ⟨w.heap.size, 0, none⟩ = some (.int .i64 2) := by rw [Lib.cell_of_heap hB, hcs]; rfl
  have HCS := Lib.hid hcs; have HF := Lib.hid hF; have HN := Lib.hid hn; have HB1 := Lib.hid hb1; have HO := Lib.hid hO; have HBk := Lib.hid hB
  clear hcs hF hn hb0 hblk hb1 hO hB hsz
  go_enter Tryz.func51, Tryz.ntmps51
  go_wp2_with (at_make; refine wpList_make_row _ rfl _ _ 67 rfl 4 i0 (.bool false) Tryz.underlying67 HI.out HZ0.out HZ1.out rfl .i64 .i64 n rfl rfl (by rw [HZ2.out]; omega) (by omega) ?_)
  generalize (w.alloc (.cells cs.toArray 36)).alloc (.cells (madeCells #[.bool false] n) 4) = w1 at c0 HB1 HO HBk ⊢
  have hgl := lt_of_heap hg
  have hg1 := (HB1.out.block g hgl).trans hg
  have HRX := Lib.hid (show ∀ w', Below w1.heap.size w1 w' → w'.rangeAt g 0 cx from fun w' hb => range_left (row_range ((hb.block g (lt_of_heap hg1)).trans hg1)))
  have HRY := Lib.hid (show ∀ w', Below w1.heap.size w1 w' → w'.rangeAt g 258 cy from fun w' hb => by
    have := range_right (row_range ((hb.block g (lt_of_heap hg1)).trans hg1))
    rwa [hvx.len, Nat.zero_add] at this)
  have HHD := Lib.hid (show ∀ w', Below w1.heap.size w1 w' → w'.cell? ⟨w.heap.size, 257, none⟩ = some (.slice (some ⟨g, 0, none⟩) 2 2) from fun w' hb => by
    rw [hb.cell (p := ⟨w.heap.size, 257, none⟩) (lt_of_heap HBk.out), Lib.cell_of_heap HBk.out]
    show cs.toArray[257]? = _
    rw [List.getElem?_toArray, HCS.out]; exact RfC_last _ _ noB_len)
  have HVX := Lib.hid (show ∀ w', Below w1.heap.size w1 w' → RfV w' a cx from fun w' hb => (hvx.below HB1.out).below hb)
  have HVY := Lib.hid (show ∀ w', Below w1.heap.size w1 w' → RfV w' b cy from fun w' hb => (hvy.below HB1.out).below hb)
  have HIX := Lib.hid (show (Tryz.prog.info? 36).map (·.size) = some cx.length by rw [hvx.len]; exact Tryz.info36)
  have HIY := Lib.hid (show (Tryz.prog.info? 36).map (·.size) = some cy.length by rw [hvy.len]; exact Tryz.info36)
  have HF1 := Lib.hid (show ∀ w', Below w1.heap.size w1 w' → BlR w' F n f from fun w' hb => (HF.out.below HB1.out).below hb)
  clear hg hgl hg1 hvx hvy c0
  refine wp_region_held_drew (S := fun w' => Below w1.heap.size w1 w') (by kernel_rfl) ((Below.refl _ w1).drew) ?_
  intro hS
  change wpAnyH _ _ _ _ _ 14 (Array.replicate 14 false) _ (World.drew _)
  generalize w1.drew = wz at hS ⊢

  refine wpAnyH_take (i := 0) (v := ?_) rfl (by kernel_rfl) (by kernel_rfl) (by kernel_rfl) (fun _ _ _ h => h) (Or.inl ⟨by rfl, ?_⟩) hS ?_
  rotate_left 1
  · intro wq hq
    have qh := HHD.out wq hq
    go_simp; (try with_reducible rfl)
  try simp only [Act.put, List.getElem_toArray, List.getElem_cons_zero, List.setIfInBounds_toArray, List.set_cons_zero, List.set_cons_succ]

  refine wpAnyH_take (i := 1) (v := ?_) rfl (by kernel_rfl) (by kernel_rfl) (by kernel_rfl) (fun _ _ _ h => h) (Or.inl ⟨by rfl, ?_⟩) hS ?_
  rotate_left 1
  · intro wq hq
    have qh := HHD.out wq hq
    go_simp; (try with_reducible rfl)
  try simp only [Act.put, List.getElem_toArray, List.getElem_cons_zero, List.getElem_cons_succ, List.setIfInBounds_toArray, List.set_cons_zero, List.set_cons_succ]

  refine wpAnyH_take (i := 2) (v := ?_) rfl (by kernel_rfl) (by kernel_rfl) (by kernel_rfl) (fun _ _ _ h => h) (Or.inl ⟨by rfl, ?_⟩) hS ?_
  rotate_left 1
  · intro wq hq
    have qh := HHD.out wq hq
    go_simp; (try with_reducible rfl)
  try simp only [Act.put, List.getElem_toArray, List.getElem_cons_zero, List.getElem_cons_succ, List.setIfInBounds_toArray, List.set_cons_zero, List.set_cons_succ]

  refine wpAnyH_take (i := 3) rfl (by kernel_rfl) (by kernel_rfl) (by kernel_rfl) (fun _ _ _ h => h) (yieldsIf_load_mid (by rfl) 36 (.tmp 106) rfl g 258 rfl cy _ (fun w' h => HRY.out w' h) Tryz.underlying36 rfl HIY.out) hS ?_
  try simp only [Act.put, List.getElem_toArray, List.getElem_cons_zero, List.getElem_cons_succ, List.setIfInBounds_toArray, List.set_cons_zero, List.set_cons_succ]

  refine wpAnyH_take (i := 4) (v := ?_) rfl (by kernel_rfl) (by kernel_rfl) (by kernel_rfl) (fun _ _ _ h => h) (Or.inl ⟨by rfl, ?_⟩) hS ?_
  rotate_left 1
  · intro wq hq
    have qh := HHD.out wq hq
    go_simp; (try with_reducible rfl)
  try simp only [Act.put, List.getElem_toArray, List.getElem_cons_zero, List.getElem_cons_succ, List.setIfInBounds_toArray, List.set_cons_zero, List.set_cons_succ]

  refine wpAnyH_take (i := 5) (v := ?_) rfl (by kernel_rfl) (by kernel_rfl) (by kernel_rfl) (fun _ _ _ h => h) (Or.inl ⟨by rfl, ?_⟩) hS ?_
  rotate_left 1
  · intro wq hq
    have qh := HHD.out wq hq
    go_simp; (try with_reducible rfl)
  try simp only [Act.put, List.getElem_toArray, List.getElem_cons_zero, List.getElem_cons_succ, List.setIfInBounds_toArray, List.set_cons_zero, List.set_cons_succ]

  refine wpAnyH_take (i := 6) (v := ?_) rfl (by kernel_rfl) (by kernel_rfl) (by kernel_rfl) (fun _ _ _ h => h) (Or.inl ⟨by rfl, ?_⟩) hS ?_
  rotate_left 1
  · intro wq hq
    have qh := HHD.out wq hq
    go_simp; (try with_reducible rfl)
  try simp only [Act.put, List.getElem_toArray, List.getElem_cons_zero, List.getElem_cons_succ, List.setIfInBounds_toArray, List.set_cons_zero, List.set_cons_succ]

  refine wpAnyH_take (i := 7) (v := ?_) rfl (by kernel_rfl) (by kernel_rfl) (by kernel_rfl) (fun _ _ _ h => h) (Or.inl ⟨by rfl, ?_⟩) hS ?_
  rotate_left 1
  · intro wq hq
    have qh := HHD.out wq hq
    go_simp; (try with_reducible rfl)
  try simp only [Act.put, List.getElem_toArray, List.getElem_cons_zero, List.getElem_cons_succ, List.setIfInBounds_toArray, List.set_cons_zero, List.set_cons_succ]

  refine wpAnyH_take (i := 8) rfl (by kernel_rfl) (by kernel_rfl) (by kernel_rfl) (fun _ _ _ h => h) (yieldsIf_load_mid (by rfl) 36 (.tmp 111) rfl g 0 rfl cx _ (fun w' h => HRX.out w' h) Tryz.underlying36 rfl HIX.out) hS ?_
  try simp only [Act.put, List.getElem_toArray, List.getElem_cons_zero, List.getElem_cons_succ, List.setIfInBounds_toArray, List.set_cons_zero, List.set_cons_succ]

  refine wpAnyH_take (i := 9) (v := ?_) rfl (by kernel_rfl) (by kernel_rfl) (by kernel_rfl) (fun _ _ _ h => h) (Or.inl ⟨by rfl, ?_⟩) hS ?_
  rotate_left 1
  · intro wq hq
    have qh := HHD.out wq hq
    go_simp; (try with_reducible rfl)
  try simp only [Act.put, List.getElem_toArray, List.getElem_cons_zero, List.getElem_cons_succ, List.setIfInBounds_toArray, List.set_cons_zero, List.set_cons_succ]

  refine wpAnyH_take (i := 10) (v := ?_) rfl (by kernel_rfl) (by kernel_rfl) (by kernel_rfl) (fun _ _ _ h => h) (Or.inl ⟨by rfl, ?_⟩) hS ?_
  rotate_left 1
  · intro wq hq
    have qh := HHD.out wq hq
    go_simp; (try with_reducible rfl)
  try simp only [Act.put, List.getElem_toArray, List.getElem_cons_zero, List.getElem_cons_succ, List.setIfInBounds_toArray, List.set_cons_zero, List.set_cons_succ]

  refine wpAnyH_ready (rs := [11]) (by kernel_rfl) (by simp) ?_
  refine AllReadyH.cons rfl (fun K' hK => ?_) AllReadyH.nil
  go_simp
  go_at_call 51
  refine (iha _ cx t F n f (HVX.out _ hS) ht HN.out (HF1.out _ hS)).mono ?_
  rintro e wy1 ⟨O1, o1, rfl, hO1, hE1, hby1, hOl1⟩
  have HE1 := Lib.hid (And.intro hO1 (And.intro hE1 hby1))
  refine hK.out _ _ (below_tr hS hby1 hS.size) (fun hS => ?_)
  clear hK K' hO1 hE1 hby1
  try simp only [Act.put, List.getElem_toArray, List.getElem_cons_zero, List.getElem_cons_succ, List.setIfInBounds_toArray, List.set_cons_zero, List.set_cons_succ]

  refine wpAnyH_ready (rs := [12]) (by kernel_rfl) (by simp) ?_
  refine AllReadyH.cons rfl (fun K' hK => ?_) AllReadyH.nil
  go_simp
  go_at_call 51
  have hSl := hS.size
  refine (ihb _ cy t O1 n o1 (HVY.out _ hS) ht HN.out HE1.out.1).mono ?_
  rintro e wy2 ⟨O2, o2, rfl, hO2, hE2, hby2, hOl2⟩
  have HE2 := Lib.hid (And.intro hO2 (And.intro hE2 hby2))
  refine hK.out _ _ (below_tr hS hby2 hS.size) (fun hS => ?_)
  clear hK K' hO2 hE2 hby2
  try simp only [Act.put, List.getElem_toArray, List.getElem_cons_zero, List.getElem_cons_succ, List.setIfInBounds_toArray, List.set_cons_zero, List.set_cons_succ]

  refine wpAnyH_take (i := 13) (v := ?_) rfl (by kernel_rfl) (by kernel_rfl) (by kernel_rfl) (fun _ _ _ h => h) (Or.inl ⟨by rfl, ?_⟩) hS ?_
  rotate_left 1
  · intro wq hq
    have qh := HHD.out wq hq
    go_simp; (try with_reducible rfl)
  try simp only [Act.put, List.getElem_toArray, List.getElem_cons_zero, List.getElem_cons_succ, List.setIfInBounds_toArray, List.set_cons_zero, List.set_cons_succ]

  refine wpAnyH_done (by kernel_rfl) ?_ _
  have HS := Lib.hid hS
  clear hS
  go_wp2_with fail
  go_ret
  exact ⟨O2, o2, rfl, HE2.out.1, En_cat HE1.out.2.1 HE2.out.2.1, below_tr HB1.out HS.out HB1.out.size, Nat.le_trans (Nat.le_trans HB1.out.size hSl) hOl2⟩

end Go.Proofs.YtejdfpieblkapaaGreatDoor
