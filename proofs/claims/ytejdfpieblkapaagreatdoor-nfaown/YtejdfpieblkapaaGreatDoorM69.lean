/- Carried from another seat. -/
import Derived.Test.YtejdfpieblkapaaGreatDoorM68
import Derived.Laws.CopyOwn
import Derived.Deep.DeepCutAuto
namespace Go.Proofs.YtejdfpieblkapaaGreatDoor
open Go.RowKit Go.Shelf

/-- Places are copied. -/
theorem cp4 {ops : Array Oper} {rest : List Oper} {op : Oper} {a : Act} {w : World} {Q : Exit → Act → World → Prop} (hg : op.guard = none) (d s : Operand) (ho : op.op = .call { callee := .builtin .copy, args := #[d, s], argTypes := #[67, 67] }) (O F n : Nat) (f o : Nat → Bool) (hd : a.eval d = .slice (some ⟨O, 0, none⟩) n n) (hs : a.eval s = .slice (some ⟨F, 0, none⟩) n n) (hO : BlR w O n o) (hF : BlR w F n f)
    (h : ∀ w', BlR w' O n f → Kb (fun i => i = O) w w' → wpList Tryz.prog ops Q rest (a.put op.dst (goInt n)) w') : wpList Tryz.prog ops Q (op :: rest) a w := by
  obtain ⟨cur, h1, h2, h3⟩ := hO
  obtain ⟨i0, hi0, hz0, hz1, hz2⟩ := info_parts Tryz.info4
  have hl : ((List.range n).map fun k => Value.bool (f k)).length = n := by simp
  refine wpList_copy_own hg d s 67 67 ho 4 Tryz.underlying67 (by rw [hi0]; simp [hz1]) O 0 n n ⟨F, 0, none⟩ n n hd hs cur 4 h1 ((List.range n).map fun k => Value.bool (f k)) (by rw [hl]; exact (Nat.min_self n).symm) (fun k v hv => ?_) (by rw [hl]; omega) (fun v hv => by obtain ⟨k, _, rfl⟩ := List.mem_map.1 hv; rfl) ?_
  · have hk : k < n := by have := (List.getElem?_eq_some_iff.1 hv).1; rwa [hl] at this
    rw [Addr.add_mid, Nat.zero_add, (hF.cell hk).1]
    simpa [hk] using hv
  · rw [hl]
    have e : (List.take 0 cur.toList ++ ((List.range n).map (fun k => Value.bool (f k)) ++ List.drop (0 + n) cur.toList)).toArray = ((List.range n).map fun k => Value.bool (f k)).toArray := by
      have e2 : List.drop (0 + n) cur.toList = [] := List.drop_of_length_le (by simp [h2])
      rw [e2, List.append_nil]
      rfl
    rw [e]
    exact h _ ⟨_, setRow_heap w O cur _ 4 (0, 0) h1, by simp, fun k hk => by simp [hk]⟩ (setRow_kb w O _)

set_option maxRecDepth 100000 in
set_option maxHeartbeats 1000000 in
theorem ends_empty : EndsOk .empty := by
  intro w cs t F n f h ht hn hF
  have hcs : cs = RfC 1 noB (.slice none 0 0) := h
  clear h
  have hb0 : Below w.heap.size w (w.alloc (.cells cs.toArray 36)) := (Below.refl _ w).alloc (Nat.le_refl _) _
  have hblk := heap_alloc_new w (.cells cs.toArray 36)
  have p1 : IntKind.i64.wrap ((t.size : Int) + 1) = (n : Int) := by rw [hn, IntWalk.i64_in _ (by omega)]; omega
  obtain ⟨i0, hi0, hz0, hz1, hz2⟩ := info_parts Tryz.info4
  have HI := Lib.hid hi0; have HZ0 := Lib.hid hz0; have HZ1 := Lib.hid hz1; have HZ2 := Lib.hid hz2
  clear hi0 hz0 hz1 hz2
  have hnb : n ≤ 10001 := by omega
  have hb1 := hb0.alloc (show w.heap.size ≤ (w.alloc (.cells cs.toArray 36)).heap.size by simp) (.cells (madeCells #[.bool false] n) 4)
  have hO := BlR.made (w.alloc (.cells cs.toArray 36)) n
  have hsz : (w.alloc (.cells cs.toArray 36)).heap.size = w.heap.size + 1 := by simp
  rw [hsz] at hO
  have hB := (Below.heap_alloc (w.alloc (.cells cs.toArray 36)) (.cells (madeCells #[.bool false] n) 4) w.heap.size (by simp)).trans hblk
  have c0 : ((w.alloc (.cells cs.toArray 36)).alloc (.cells (madeCells #[.bool false] n) 4)).cell? ⟨w.heap.size, 0, none⟩ = some (.int .i64 1) := by rw [Lib.cell_of_heap hB, hcs]; rfl
  have HCS := Lib.hid hcs; have HF := Lib.hid hF; have HN := Lib.hid hn; have HB1 := Lib.hid hb1; have HO := Lib.hid hO; have HBk := Lib.hid hB
  clear hcs hF hn hb0 hblk hb1 hO hB hsz
  go_enter Tryz.func51, Tryz.ntmps51
  go_upto_region 21 with (at_make; refine wpList_make_row _ rfl _ _ 67 rfl 4 i0 (.bool false) Tryz.underlying67 HI.out HZ0.out HZ1.out rfl .i64 .i64 n rfl rfl (by rw [HZ2.out]; omega) (by omega) ?_)
  generalize (w.alloc (.cells cs.toArray 36)).alloc (.cells (madeCells #[.bool false] n) 4) = w1 at c0 HB1 HO HBk ⊢

  have HF1 := Lib.hid (HF.out.below HB1.out)
  go_wp2_with (refine cp4 rfl _ _ rfl (w.heap.size + 1) F n f (fun _ => false) rfl rfl HO.out HF1.out ?_)
  intro w5 hb5 hk5
  have HH := Lib.hid (show EnF .empty t.data.toList n f w (.returned (.slice (some ⟨w.heap.size + 1, 0, none⟩) n n)) w5 from ⟨_, f, rfl, hb5, En_empty _ f, HB1.out.trans (hk5.below HB1.out.size (fun i hi => by omega)), by omega⟩)
  clear hb5 hk5
  go_wp2_with fail
  go_ret
  exact HH.out

set_option maxRecDepth 100000 in
set_option maxHeartbeats 2000000 in
theorem ends_or (a b : Rx) (iha : EndsOk a) (ihb : EndsOk b) : EndsOk (.or a b) := by
  intro w cs t F n f h ht hn hF
  obtain ⟨g, fz, cx, cy, hcs, hg, hvx, hvy⟩ := h
  have hb0 : Below w.heap.size w (w.alloc (.cells cs.toArray 36)) := (Below.refl _ w).alloc (Nat.le_refl _) _
  have hblk := heap_alloc_new w (.cells cs.toArray 36)
  have p1 : IntKind.i64.wrap ((t.size : Int) + 1) = (n : Int) := by rw [hn, IntWalk.i64_in _ (by omega)]; omega
  obtain ⟨i0, hi0, hz0, hz1, hz2⟩ := info_parts Tryz.info4
  have HI := Lib.hid hi0; have HZ0 := Lib.hid hz0; have HZ1 := Lib.hid hz1; have HZ2 := Lib.hid hz2
  clear hi0 hz0 hz1 hz2
  have hnb : n ≤ 10001 := by omega
  have hb1 := hb0.alloc (show w.heap.size ≤ (w.alloc (.cells cs.toArray 36)).heap.size by simp) (.cells (madeCells #[.bool false] n) 4)
  have hO := BlR.made (w.alloc (.cells cs.toArray 36)) n
  have hsz : (w.alloc (.cells cs.toArray 36)).heap.size = w.heap.size + 1 := by simp
  rw [hsz] at hO
  have hB := (Below.heap_alloc (w.alloc (.cells cs.toArray 36)) (.cells (madeCells #[.bool false] n) 4) w.heap.size (by simp)).trans hblk
  have c0 : ((w.alloc (.cells cs.toArray 36)).alloc (.cells (madeCells #[.bool false] n) 4)).cell? ⟨w.heap.size, 0, none⟩ = some (.int .i64 3) := by rw [Lib.cell_of_heap hB, hcs]; rfl
  have HCS := Lib.hid hcs; have HF := Lib.hid hF; have HN := Lib.hid hn; have HB1 := Lib.hid hb1; have HO := Lib.hid hO; have HBk := Lib.hid hB
  clear hcs hF hn hb0 hblk hb1 hO hB hsz
  go_enter Tryz.func51, Tryz.ntmps51
  go_upto_region 25 with (at_make; refine wpList_make_row _ rfl _ _ 67 rfl 4 i0 (.bool false) Tryz.underlying67 HI.out HZ0.out HZ1.out rfl .i64 .i64 n rfl rfl (by rw [HZ2.out]; omega) (by omega) ?_)
  generalize (w.alloc (.cells cs.toArray 36)).alloc (.cells (madeCells #[.bool false] n) 4) = w1 at c0 HB1 HO HBk ⊢
  have hgl := lt_of_heap hg
  have hg1 := (HB1.out.block g hgl).trans hg
  have HRX := Lib.hid (show ∀ w', Below w1.heap.size w1 w' → w'.rangeAt g 0 cx from fun w' hb => range_left (row_range ((hb.block g (lt_of_heap hg1)).trans hg1)))
  have HRY := Lib.hid (show ∀ w', Below w1.heap.size w1 w' → w'.rangeAt g 258 cy from fun w' hb => by
    have := range_right (row_range ((hb.block g (lt_of_heap hg1)).trans hg1))
    rwa [hvx.len, Nat.zero_add] at this)
  have HHD := Lib.hid (show ∀ w', Below w1.heap.size w1 w' → w'.cell? ⟨w.heap.size, 257, none⟩ = some (.slice (some ⟨g, 0, none⟩) 2 2) from fun w' hb => by
    rw [hb.cell (p := ⟨w.heap.size, 257, none⟩) (lt_of_heap HBk.out), Lib.cell_of_heap HBk.out]
    show cs.toArray[257]? = _
    rw [List.getElem?_toArray, HCS.out]; exact RfC_last _ _ noB_len)
  have HVX := Lib.hid (show ∀ w', Below w1.heap.size w1 w' → RfV w' a cx from fun w' hb => (hvx.below HB1.out).below hb)
  have HVY := Lib.hid (show ∀ w', Below w1.heap.size w1 w' → RfV w' b cy from fun w' hb => (hvy.below HB1.out).below hb)
  have HIX := Lib.hid (show (Tryz.prog.info? 36).map (·.size) = some cx.length by rw [hvx.len]; exact Tryz.info36)
  have HIY := Lib.hid (show (Tryz.prog.info? 36).map (·.size) = some cy.length by rw [hvy.len]; exact Tryz.info36)
  have HF1 := Lib.hid (show ∀ w', Below w1.heap.size w1 w' → BlR w' F n f from fun w' hb => (HF.out.below HB1.out).below hb)
  clear hg hgl hg1 hvx hvy c0
  refine wp_region_held_drew (S := fun w' => Below w1.heap.size w1 w') (by kernel_rfl) ((Below.refl _ w1).drew) ?_
  intro hS
  change wpAnyH _ _ _ _ _ 16 (Array.replicate 16 false) _ (World.drew _)
  generalize w1.drew = wz at hS ⊢

  refine wpAnyH_take (i := 0) (v := ?_) rfl (by kernel_rfl) (by kernel_rfl) (by kernel_rfl) (fun _ _ _ h => h) (Or.inl ⟨by rfl, ?_⟩) hS ?_
  rotate_left 1
  · intro wq hq
    have qh := HHD.out wq hq
    go_simp; (try with_reducible rfl)
  try simp only [Act.put, List.getElem_toArray, List.getElem_cons_zero, List.getElem_cons_succ, List.setIfInBounds_toArray, List.set_cons_zero, List.set_cons_succ]

  refine wpAnyH_take (i := 1) (v := ?_) rfl (by kernel_rfl) (by kernel_rfl) (by kernel_rfl) (fun _ _ _ h => h) (Or.inl ⟨by rfl, ?_⟩) hS ?_
  rotate_left 1
  · intro wq hq
    have qh := HHD.out wq hq
    go_simp; (try with_reducible rfl)
  try simp only [Act.put, List.getElem_toArray, List.getElem_cons_zero, List.getElem_cons_succ, List.setIfInBounds_toArray, List.set_cons_zero, List.set_cons_succ]

  refine wpAnyH_take (i := 2) (v := ?_) rfl (by kernel_rfl) (by kernel_rfl) (by kernel_rfl) (fun _ _ _ h => h) (Or.inl ⟨by rfl, ?_⟩) hS ?_
  rotate_left 1
  · intro wq hq
    have qh := HHD.out wq hq
    go_simp; (try with_reducible rfl)
  try simp only [Act.put, List.getElem_toArray, List.getElem_cons_zero, List.getElem_cons_succ, List.setIfInBounds_toArray, List.set_cons_zero, List.set_cons_succ]

  refine wpAnyH_take (i := 3) rfl (by kernel_rfl) (by kernel_rfl) (by kernel_rfl) (fun _ _ _ h => h) (yieldsIf_load_mid (by rfl) 36 (.tmp 121) rfl g 0 rfl cx _ (fun w' h => HRX.out w' h) Tryz.underlying36 rfl HIX.out) hS ?_
  try simp only [Act.put, List.getElem_toArray, List.getElem_cons_zero, List.getElem_cons_succ, List.setIfInBounds_toArray, List.set_cons_zero, List.set_cons_succ]

  refine wpAnyH_take (i := 4) (v := ?_) rfl (by kernel_rfl) (by kernel_rfl) (by kernel_rfl) (fun _ _ _ h => h) (Or.inl ⟨by rfl, ?_⟩) hS ?_
  rotate_left 1
  · intro wq hq
    have qh := HHD.out wq hq
    go_simp; (try with_reducible rfl)
  try simp only [Act.put, List.getElem_toArray, List.getElem_cons_zero, List.getElem_cons_succ, List.setIfInBounds_toArray, List.set_cons_zero, List.set_cons_succ]

  refine wpAnyH_take (i := 5) (v := ?_) rfl (by kernel_rfl) (by kernel_rfl) (by kernel_rfl) (fun _ _ _ h => h) (Or.inl ⟨by rfl, ?_⟩) hS ?_
  rotate_left 1
  · intro wq hq
    have qh := HHD.out wq hq
    go_simp; (try with_reducible rfl)
  try simp only [Act.put, List.getElem_toArray, List.getElem_cons_zero, List.getElem_cons_succ, List.setIfInBounds_toArray, List.set_cons_zero, List.set_cons_succ]

  refine wpAnyH_take (i := 7) (v := ?_) rfl (by kernel_rfl) (by kernel_rfl) (by kernel_rfl) (fun _ _ _ h => h) (Or.inl ⟨by rfl, ?_⟩) hS ?_
  rotate_left 1
  · intro wq hq
    have qh := HHD.out wq hq
    go_simp; (try with_reducible rfl)
  try simp only [Act.put, List.getElem_toArray, List.getElem_cons_zero, List.getElem_cons_succ, List.setIfInBounds_toArray, List.set_cons_zero, List.set_cons_succ]

  refine wpAnyH_take (i := 8) (v := ?_) rfl (by kernel_rfl) (by kernel_rfl) (by kernel_rfl) (fun _ _ _ h => h) (Or.inl ⟨by rfl, ?_⟩) hS ?_
  rotate_left 1
  · intro wq hq
    have qh := HHD.out wq hq
    go_simp; (try with_reducible rfl)
  try simp only [Act.put, List.getElem_toArray, List.getElem_cons_zero, List.getElem_cons_succ, List.setIfInBounds_toArray, List.set_cons_zero, List.set_cons_succ]

  refine wpAnyH_take (i := 9) (v := ?_) rfl (by kernel_rfl) (by kernel_rfl) (by kernel_rfl) (fun _ _ _ h => h) (Or.inl ⟨by rfl, ?_⟩) hS ?_
  rotate_left 1
  · intro wq hq
    have qh := HHD.out wq hq
    go_simp; (try with_reducible rfl)
  try simp only [Act.put, List.getElem_toArray, List.getElem_cons_zero, List.getElem_cons_succ, List.setIfInBounds_toArray, List.set_cons_zero, List.set_cons_succ]

  refine wpAnyH_take (i := 10) rfl (by kernel_rfl) (by kernel_rfl) (by kernel_rfl) (fun _ _ _ h => h) (yieldsIf_load_mid (by rfl) 36 (.tmp 128) rfl g 258 rfl cy _ (fun w' h => HRY.out w' h) Tryz.underlying36 rfl HIY.out) hS ?_
  try simp only [Act.put, List.getElem_toArray, List.getElem_cons_zero, List.getElem_cons_succ, List.setIfInBounds_toArray, List.set_cons_zero, List.set_cons_succ]

  refine wpAnyH_take (i := 11) (v := ?_) rfl (by kernel_rfl) (by kernel_rfl) (by kernel_rfl) (fun _ _ _ h => h) (Or.inl ⟨by rfl, ?_⟩) hS ?_
  rotate_left 1
  · intro wq hq
    have qh := HHD.out wq hq
    go_simp; (try with_reducible rfl)
  try simp only [Act.put, List.getElem_toArray, List.getElem_cons_zero, List.getElem_cons_succ, List.setIfInBounds_toArray, List.set_cons_zero, List.set_cons_succ]

  refine wpAnyH_take (i := 12) (v := ?_) rfl (by kernel_rfl) (by kernel_rfl) (by kernel_rfl) (fun _ _ _ h => h) (Or.inl ⟨by rfl, ?_⟩) hS ?_
  rotate_left 1
  · intro wq hq
    have qh := HHD.out wq hq
    go_simp; (try with_reducible rfl)
  try simp only [Act.put, List.getElem_toArray, List.getElem_cons_zero, List.getElem_cons_succ, List.setIfInBounds_toArray, List.set_cons_zero, List.set_cons_succ]
  have hSl := hS.size

  refine wpAnyH_ready (rs := [6]) (by kernel_rfl) (by simp) ?_
  refine AllReadyH.cons rfl (fun K' hK => ?_) AllReadyH.nil
  go_simp
  go_at_call 51
  refine (iha _ cx t F n f (HVX.out _ hS) ht HN.out (HF1.out _ hS)).mono ?_
  rintro e wy1 ⟨O1, o1, rfl, hO1, hE1, hby1, hOl1⟩
  have HE1 := Lib.hid (And.intro hO1 (And.intro hE1 hby1))
  refine hK.out _ _ (below_tr hS hby1 hS.size) (fun hS => ?_)
  clear hK K' hO1 hE1 hby1
  try simp only [Act.put, List.getElem_toArray, List.getElem_cons_zero, List.getElem_cons_succ, List.setIfInBounds_toArray, List.set_cons_zero, List.set_cons_succ]
  have hSl2 := hS.size

  refine wpAnyH_ready (rs := [13]) (by kernel_rfl) (by simp) ?_
  refine AllReadyH.cons rfl (fun K' hK => ?_) AllReadyH.nil
  go_simp
  go_at_call 51
  refine (ihb _ cy t F n f (HVY.out _ hS) ht HN.out (HF1.out _ hS)).mono ?_
  rintro e wy2 ⟨O2, o2, rfl, hO2, hE2, hby2, hOl2⟩
  have HE2 := Lib.hid (And.intro hO2 (And.intro hE2 hby2))
  refine hK.out _ _ (below_tr hS hby2 hS.size) (fun hS => ?_)
  clear hK K' hO2 hE2 hby2
  try simp only [Act.put, List.getElem_toArray, List.getElem_cons_zero, List.getElem_cons_succ, List.setIfInBounds_toArray, List.set_cons_zero, List.set_cons_succ]

  refine wpAnyH_take (i := 14) (v := ?_) rfl (by kernel_rfl) (by kernel_rfl) (by kernel_rfl) (fun _ _ _ h => h) (Or.inl ⟨by rfl, ?_⟩) hS ?_
  rotate_left 1
  · intro wq hq
    have qh := HHD.out wq hq
    go_simp; (try with_reducible rfl)
  try simp only [Act.put, List.getElem_toArray, List.getElem_cons_zero, List.getElem_cons_succ, List.setIfInBounds_toArray, List.set_cons_zero, List.set_cons_succ]

  refine wpAnyH_take (i := 15) (v := ?_) rfl (by kernel_rfl) (by kernel_rfl) (by kernel_rfl) (fun _ _ _ h => h) (Or.inl ⟨by rfl, ?_⟩) hS ?_
  rotate_left 1
  · intro wq hq
    have qh := HHD.out wq hq
    go_simp; (try with_reducible rfl)
  try simp only [Act.put, List.getElem_toArray, List.getElem_cons_zero, List.getElem_cons_succ, List.setIfInBounds_toArray, List.set_cons_zero, List.set_cons_succ]

  refine wpAnyH_done (by kernel_rfl) ?_ _
  have hOo := HO.out.lt
  have hne1 : w.heap.size + 1 ≠ O1 := by omega
  have hne2 : w.heap.size + 1 ≠ O2 := by omega
  have HST := Lib.hid (show BlR wy2 (w.heap.size + 1) n (fun _ => false) ∧ BlR wy2 O1 n o1 ∧ BlR wy2 O2 n o2 ∧ Below w.heap.size w wy2 from ⟨HO.out.below hS, HE1.out.1.below HE2.out.2.2, HE2.out.1, below_tr HB1.out hS HB1.out.size⟩)
  have HEA := Lib.hid HE1.out.2.1; have HEB := Lib.hid HE2.out.2.1
  clear hS HE1 HE2
  go_wp2_with fail
  go_loopw [11] (fun v wr => ∃ (k : Nat) (o : Nat → Bool), k ≤ n ∧ v = .int .i64 k ∧ Hid (BlR wr (w.heap.size + 1) n o ∧ (∀ i, i < k → o i = (o1 i || o2 i)) ∧ BlR wr O1 n o1 ∧ BlR wr O2 n o2 ∧ Below w.heap.size w wr)) (fun v _ => n - (intOf v).toNat)
  case atStart => exact ⟨0, fun _ => false, by omega, rfl, HST.out.1, (fun i hi => by omega), HST.out.2.1, HST.out.2.2.1, HST.out.2.2.2⟩
  case round =>
    obtain ⟨k, o, hk, rfl, HQ⟩ := hrel
    obtain ⟨q1, q2, q3, q4, q5⟩ := HQ.out
    have hnn := HN.out
    rcases Nat.lt_or_ge k n with hlt | hge
    · have hki : (k : Int) ≤ t.size := by omega
      have hk0 : (0 : Int) ≤ k := by omega
      have hkn : (k : Int) < n := by omega
      obtain ⟨x1, _⟩ := q3.cell hlt
      obtain ⟨x2, _⟩ := q4.cell hlt
      obtain ⟨x3, x4⟩ := q1.cell hlt
      obtain ⟨α, hα⟩ : ∃ α, α = o1 k := ⟨_, rfl⟩
      obtain ⟨β, hβ⟩ : ∃ β, β = o2 k := ⟨_, rfl⟩
      rw [← hα] at x1
      rw [← hβ] at x2
      have HFin := Lib.hid (fun (v : Bool) (hv : v = (α || β)) => (show BlR (wr.setCell ⟨w.heap.size + 1, k, none⟩ (.bool v)) (w.heap.size + 1) n (fun i => if i = k then v else o i) ∧ (∀ i, i < k + 1 → (if i = k then v else o i) = (o1 i || o2 i)) ∧ BlR (wr.setCell ⟨w.heap.size + 1, k, none⟩ (.bool v)) O1 n o1 ∧ BlR (wr.setCell ⟨w.heap.size + 1, k, none⟩ (.bool v)) O2 n o2 ∧ Below w.heap.size w (wr.setCell ⟨w.heap.size + 1, k, none⟩ (.bool v)) from by
        have kb := Kb.setCell wr ⟨w.heap.size + 1, k, none⟩ (.bool v)
        refine ⟨q1.set k v, fun i hi => ?_, ?_, ?_, q5.trans (kb.below q5.size (fun i hi => by rw [hi]; show w.heap.size ≤ w.heap.size + 1; omega))⟩
        · by_cases e : i = k
          · subst e; rw [if_pos rfl, hv, hα, hβ]
          · rw [if_neg e]; exact q2 i (by omega)
        · obtain ⟨c1, d1, d2, d3⟩ := q3
          exact ⟨c1, (kb.block O1 (lt_of_heap d1) (fun h => hne1 h.symm)).trans d1, d2, d3⟩
        · obtain ⟨c1, d1, d2, d3⟩ := q4
          exact ⟨c1, (kb.block O2 (lt_of_heap d1) (fun h => hne2 h.symm)).trans d1, d2, d3⟩))
      clear q1 q2 q3 q4 q5 HQ hα hβ hnn
      cases α <;> (
        go_wp2
        go_roundw
        case rel => exact ⟨k + 1, _, by omega, by go_num, HFin.out _ (by simp)⟩
        case measure => simp [intOf]; omega)
    · obtain rfl : k = n := by omega
      have hki : ¬ (k : Int) ≤ t.size := by omega
      have hkd : decide ((k : Int) ≤ t.size) = false := decide_eq_false hki
      have HH := Lib.hid (show EnF (.or a b) t.data.toList k f w (.returned (.slice (some ⟨w.heap.size + 1, 0, none⟩) k k)) wr from ⟨_, o, rfl, q1, En_or HEA.out HEB.out (fun i hi => q2 i (by rw [← Lib.size_eq] at hi; omega)), q5, by omega⟩)
      clear q1 q2 q3 q4 q5 HQ hnn
      go_wp2_with fail
      go_ret
      exact HH.out
end Go.Proofs.YtejdfpieblkapaaGreatDoor
