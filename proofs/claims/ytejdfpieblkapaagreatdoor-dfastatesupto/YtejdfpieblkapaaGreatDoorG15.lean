/- A new position. -/
import Derived.Test.YtejdfpieblkapaaGreatDoorG10
import Derived.Test.YtejdfpieblkapaaGreatDoorRk
namespace Go.Proofs.YtejdfpieblkapaaGreatDoor
open Lib renaming hid → zh
open List renaming getElem_toArray → w1z, getElem_cons_zero → w2z, getElem_cons_succ → w3z, setIfInBounds_toArray → w4z, set_cons_zero → w5z, set_cons_succ → w6z
open Go.RowKit Go.Shelf

theorem Tryz.info100 : (Tryz.prog.info? 100).map (fun i => (i.zero, i.size, i.bytes)) = some (some (.agg #[.int .u64 0, .int .u64 0, .int .u64 0, .int .u64 0]), 4, 32) := by kernel_rfl
theorem Tryz.info3 : (Tryz.prog.info? 3).map (fun i => (i.zero, i.size, i.bytes)) = some (some (.int .i64 0), 1, 8) := by kernel_rfl
theorem PsAt.made (w : World) : PsAt (w.alloc (.map #[] 0)) w.heap.size [] := ⟨List.nodup_nil, _, MpAt.made w _, fun k v => by simp⟩
theorem wpList_ps_insert {P : Program} (w : World) {ops : Array Oper} {rest : List Oper} {o : Oper} {a : Act} {Q : Exit → Act → World → Prop} (hg : o.guard = none) (m x v : Operand) (t : TypeId) (hop : o.op = Op.insert t m x v) {kt e : TypeId} (hkt : P.underlying kt = some (.int .i64)) (ht : P.underlying t = some (.map kt e)) {b : Nat} {l : List Nat} (hm : a.eval m = .map (some b)) (h : PsAt w b l) (p : Nat) (hx : a.eval x = pv p) (hv : a.eval v = .agg #[]) (hp : p ∉ l)
  (hK : ∀ w', PsAt w' b (l ++ [p]) → w.grownBy w' (some b) → wpList P ops Q rest (a.put o.dst undef) w') :
  wpList P ops Q (o :: rest) a w := by
 obtain ⟨h0, f, h1, h2⟩ := h
 refine wpList_plain hg fun K' hK' => ?_
 obtain ⟨w', f', hrun, q1, q2, q3, q4⟩ := h1.store (keyIn_int hkt) ht (key := pv p) (.agg #[]) ⟨_, rfl⟩
 unfold Oper.wp
 simp [execOp, hop, hm, hx, hv, hrun, Result.andThen]
 exact hK' _ _ (hK w' (PsAt.put (w := w) h0 h2 hp q1 q2 q3) q4.grown)
theorem set3 {w : World} {b T : Nat} {a0 b0 c0 : Value} (h : w.heap[b]? = some (.cells #[a0, b0, c0] T (0, 0))) (x y z : Value) : (((w.setCell ⟨b, 0, none⟩ x).setCell ⟨b, 1, none⟩ y).setCell ⟨b, 2, none⟩ z).heap[b]? = some (.cells #[x, y, z] T (0, 0)) ∧ Kb (fun i => i = b) w (((w.setCell ⟨b, 0, none⟩ x).setCell ⟨b, 1, none⟩ y).setCell ⟨b, 2, none⟩ z) := by
 refine ⟨?_, ((Kb.setCell w ⟨b, 0, none⟩ x).trans (Kb.setCell _ ⟨b, 1, none⟩ y) (fun _ _ h => h)).trans (Kb.setCell _ ⟨b, 2, none⟩ z) (fun _ _ h => h)⟩
 rw [set_heap _ _ 2 _ _ _ _ (set_heap _ _ 1 _ _ _ _ (set_heap _ _ 0 _ _ _ _ h))]
 rfl
theorem Bd.other {w w' : World} {p : BP} {X : Nat → Prop} {ss : List Ws} {rl : List Nat} {F : Nat → Nat → Bool} {sv rv : Value} {b : Nat} {cs : Array Value} {t : TypeId} {fz : Nat × Nat} (h : Bd w p X ss rl F sv rv) (hk : Kb (fun i => i = b) w w') (hb : w.heap[b]? = some (.cells cs t fz)) (ht : t ≠ 83 ∧ t ≠ 79 ∧ t ≠ 100 ∧ t ≠ 3 ∧ t ≠ 87 ∧ t ≠ 99) : Bd w' p X ss rl F sv rv := by
 have hty : ∀ (i : Nat) (cs' : Array Value) (t' : TypeId) (fz' : Nat × Nat), w.heap[i]? = some (.cells cs' t' fz') → t' ≠ t → w'.heap[i]? = some (.cells cs' t' fz') := fun i cs' t' fz' hi hne => (hk.block i (lt_of_heap hi) (fun e => by
  rw [e, hb] at hi
  injection hi with hi
  injection hi with _ e2
  exact hne e2.symm)).trans hi
 refine ⟨hty _ _ _ _ h.bld (Ne.symm ht.1), hty _ _ _ _ h.mach (Ne.symm ht.2.1), own_kb h.sets hk (fun q hq e => ?_), own_kb h.rules hk (fun q hq e => ?_), h.fo.kb hk (fun i cs' t' fz' e hi => ?_), h.xs, h.xr, h.xm, h.xb, h.xg, h.cap, fun i hi => by
  obtain ⟨cs', t', h1, h2⟩ := h.xt i hi
  exact ⟨cs', t', hty _ _ _ _ h1 (fun e => by rw [e] at h2; unfold XT at h2; obtain ⟨a1, a2, a3, a4, a5, a6⟩ := ht; rcases h2 with h2 | h2 | h2 | h2 <;> first | exact a2 h2 | exact a3 h2 | exact a4 h2 | exact a6 h2), h2⟩⟩
 ·obtain ⟨_, cs, h3⟩ := own_ty h.sets hq
  rw [e, hb] at h3
  injection h3 with h3
  injection h3 with _ h3
  exact ht.2.2.1 h3
 ·obtain ⟨_, cs, h3⟩ := own_ty h.rules hq
  rw [e, hb] at h3
  injection h3 with h3
  injection h3 with _ h3
  exact ht.2.2.2.1 h3
 ·rw [e, hb] at hi
  injection hi with hi
  injection hi with _ h3
  rw [← h3]
  exact ht.2.2.2.2
def KnTo (w : World) (p : BP) (X : Nat → Prop) (ss : List Ws) (rl : List Nat) (R : Nat) (r : Rx) (F' : Nat → Nat → Bool) (β : Bool) (e : Ending) (w' : World) : Prop :=
 ∃ (X' : Nat → Prop) (fo lo : Option Nat) (sv' rv' : Value), e = .returned (.agg #[.map fo, .map lo, .bool β]) ∧ Bd w' p X' (ss ++ r.sts) (rl ++ List.replicate r.cnt R) F' sv' rv' ∧ PsO w' fo (r.fst ss.length) ∧ PsO w' lo (r.lst ss.length) ∧ (fo = none ↔ r.core = none) ∧ (lo = none ↔ r.core = none) ∧
  (∀ q, (fo = some q ∨ lo = some q) → w.heap.size ≤ q ∧ ¬ X' q) ∧ (∀ q, fo = some q → lo ≠ some q) ∧ Kb X w w' ∧ (∀ i, i < w.heap.size → X' i → X i)

set_option maxRecDepth 100000 in
set_option maxHeartbeats 4000000 in
theorem newPos_any (w : World) (p : BP) (X : Nat → Prop) (ss : List Ws) (rl : List Nat) (F : Nat → Nat → Bool) (sv rv : Value) (s : Ws) (b R ce : Nat) (Ae : Option Addr) (h : Bd w p X ss rl F sv rv) (hgb : ∃ es clk, w.heap[p.gb]? = some (.map es clk)) (hb : NdAt w (.set s) b) (hbX : ∀ i cs t fz, X i → w.heap[i]? = some (.cells cs t fz) → t ≠ 128) (he : p.ev = .slice Ae R ce) (hl : ss.length ≤ 100000) (hl2 : rl.length ≤ 100000) :
  Calls Tryz.prog 146 #[ptr p.bb, ptr b] w (KnTo w p X ss rl R (.set s) F false) := by
 have HR1 := zh h
 obtain ⟨wk, hwk⟩ : ∃ wk, wk = w.alloc (.cells #[.map none, .map none, .bool false] 142) := ⟨_, rfl⟩
 have hbk : Below w.heap.size w wk := by rw [hwk]; exact (Below.refl _ w).alloc (Nat.le_refl _) _
 have hck : wk.heap[w.heap.size]? = some (.cells #[.map none, .map none, .bool false] 142 (0, 0)) := by rw [hwk]; exact heap_alloc_new w _
 have h1 := h.below hbk
 obtain ⟨As, cs, e1, hcs1, hcs2⟩ := own_form h.sets
 obtain ⟨Ar, cr, e2, hcr1, hcr2⟩ := own_form h.rules
 obtain ⟨ns, hns⟩ : ∃ ns, ns = ss.length := ⟨_, rfl⟩
 obtain ⟨nr, hnr⟩ : ∃ nr, nr = rl.length := ⟨_, rfl⟩
 rw [← hns] at hl e1 hcs1
 rw [← hnr] at hl2 e2 hcr1
 have HNS := zh hns; have HNR := zh hnr
 have HBK := zh hbk; have HCK := zh hck
 have HND := zh (hb.keep (KN.of_below hbk))
 have HGB := zh hgb
 obtain ⟨bb, mb, gb, cnt, A, c, fv, lv, ev, gs⟩ := p
 simp only at he HGB
 subst e1; subst e2; subst he
 have HX := zh h1
 have HX0 := zh h
 obtain ⟨i0, hi0, hz0, hz1, hz2⟩ := info_parts Tryz.info100
 have HI := zh hi0; have HZ0 := zh hz0; have HZ1 := zh hz1; have HZ2 := zh hz2
 obtain ⟨i1, hj0, hy0, hy1, hy2⟩ := info_parts Tryz.info3
 have HJ := zh hj0; have HY0 := zh hy0; have HY1 := zh hy1; have HY2 := zh hy2
 have d0 : wk.cell? ⟨bb, 0, none⟩ = some (ptr mb) := h1.cells.1
 have m0 : wk.cell? ⟨mb, 0, none⟩ = some (.slice As ns cs) := by rw [Lib.cell_of_heap h1.mach]; rfl
 have HL := zh (len_any wk mb As ns cs m0)
 clear hi0 hz0 hz1 hz2 hj0 hy0 hy1 hy2 hbk hck h1 hb hbX hns hnr h hgb
 go_enter Tryz.func146, Tryz.ntmps146
 go_upto_region 1 with fail
 rw [← hwk]
 clear hwk
 go_wp2_with fail
 refine HL.out.mono ?_
 rintro e w1 ⟨rfl, rfl⟩
 go_wp2_with fail
 refine wp_region_k 17 (fun w' => w'.cell? ⟨bb, 0, none⟩ = some (ptr mb) ∧ w'.cell? ⟨mb, 0, none⟩ = some (.slice As ns cs)) (by kernel_rfl) (⟨d0, m0⟩) ?_
 intro hS
 change wpAnyK _ _ _ _ _ _ 18 (Array.replicate 18 false) _ (World.drew _)
 have HXD := zh (HX.out.below ((Below.refl _ w1).drew))
 have HCB := zh (bytes_any w1.drew s b (HND.out.keep (KN.of_below ((Below.refl _ w1).drew))))
 have HBD := zh ((Below.refl w1.heap.size w1).drew)
 generalize w1.drew = wd at HXD HCB HBD hS ⊢
 refine wpAnyK_take (i := 0) (v := ?_) rfl (by kernel_rfl) (by kernel_rfl) (by kernel_rfl) (by kernel_rfl) (fun _ _ _ h => h) (Or.inl ⟨by rfl, ?_⟩) hS ?_
 rotate_left 1
 ·intro wq _; go_simp; (try with_reducible rfl)
 try simp only [Act.put, w1z, w2z, w3z, w4z, w5z, w6z]
 refine wpAnyK_take (i := 1) (v := ?_) rfl (by kernel_rfl) (by kernel_rfl) (by kernel_rfl) (by kernel_rfl) (fun _ _ _ h => h) (Or.inl ⟨by rfl, ?_⟩) hS ?_
 rotate_left 1
 ·intro wq _; go_simp; (try with_reducible rfl)
 try simp only [Act.put, w1z, w2z, w3z, w4z, w5z, w6z]
 refine wpAnyK_take (i := 2) (v := ?_) rfl (by kernel_rfl) (by kernel_rfl) (by kernel_rfl) (by kernel_rfl) (fun _ _ _ h => h) (Or.inl ⟨by rfl, ?_⟩) hS ?_
 rotate_left 1
 ·intro wq _; go_simp; (try with_reducible rfl)
 try simp only [Act.put, w1z, w2z, w3z, w4z, w5z, w6z]
 refine wpAnyK_take (i := 3) (v := ?_) rfl (by kernel_rfl) (by kernel_rfl) (by kernel_rfl) (by kernel_rfl) (fun _ _ _ h => h) (Or.inl ⟨by rfl, ?_⟩) hS ?_
 rotate_left 1
 ·intro wq hq; obtain ⟨q1, q2⟩ := hq; go_simp; (try with_reducible rfl)
 try simp only [Act.put, w1z, w2z, w3z, w4z, w5z, w6z]
 refine wpAnyK_take (i := 4) (v := ?_) rfl (by kernel_rfl) (by kernel_rfl) (by kernel_rfl) (by kernel_rfl) (fun _ _ _ h => h) (Or.inl ⟨by rfl, ?_⟩) hS ?_
 rotate_left 1
 ·intro wq _; go_simp; (try with_reducible rfl)
 try simp only [Act.put, w1z, w2z, w3z, w4z, w5z, w6z]
 refine wpAnyK_take (i := 5) (v := ?_) rfl (by kernel_rfl) (by kernel_rfl) (by kernel_rfl) (by kernel_rfl) (fun _ _ _ h => h) (Or.inl ⟨by rfl, ?_⟩) hS ?_
 rotate_left 1
 ·intro wq _; go_simp; (try with_reducible rfl)
 try simp only [Act.put, w1z, w2z, w3z, w4z, w5z, w6z]
 refine wpAnyK_take (i := 6) (v := ?_) rfl (by kernel_rfl) (by kernel_rfl) (by kernel_rfl) (by kernel_rfl) (fun _ _ _ h => h) (Or.inl ⟨by rfl, ?_⟩) hS ?_
 rotate_left 1
 ·intro wq _; go_simp; (try with_reducible rfl)
 try simp only [Act.put, w1z, w2z, w3z, w4z, w5z, w6z]
 refine wpAnyK_take (i := 7) (v := ?_) rfl (by kernel_rfl) (by kernel_rfl) (by kernel_rfl) (by kernel_rfl) (fun _ _ _ h => h) (Or.inl ⟨by rfl, ?_⟩) hS ?_
 rotate_left 1
 ·intro wq hq; obtain ⟨q1, q2⟩ := hq; go_simp; (try with_reducible rfl)
 try simp only [Act.put, w1z, w2z, w3z, w4z, w5z, w6z]
 refine wpAnyK_take (i := 8) (v := ?_) rfl (by kernel_rfl) (by kernel_rfl) (by kernel_rfl) (by kernel_rfl) (fun _ _ _ h => h) (Or.inl ⟨by rfl, ?_⟩) hS ?_
 rotate_left 1
 ·intro wq _; go_simp; (try with_reducible rfl)
 try simp only [Act.put, w1z, w2z, w3z, w4z, w5z, w6z]
 refine wpAnyK_take (i := 9) (v := ?_) rfl (by kernel_rfl) (by kernel_rfl) (by kernel_rfl) (by kernel_rfl) (fun _ _ _ h => h) (Or.inl ⟨by rfl, ?_⟩) hS ?_
 rotate_left 1
 ·intro wq _; go_simp; (try with_reducible rfl)
 try simp only [Act.put, w1z, w2z, w3z, w4z, w5z, w6z]
 refine wpAnyK_take (i := 10) (v := ?_) rfl (by kernel_rfl) (by kernel_rfl) (by kernel_rfl) (by kernel_rfl) (fun _ _ _ h => h) (Or.inl ⟨by rfl, ?_⟩) hS ?_
 rotate_left 1
 ·intro wq hq; obtain ⟨q1, q2⟩ := hq; go_simp; (try with_reducible rfl)
 try simp only [Act.put, w1z, w2z, w3z, w4z, w5z, w6z]
 refine wpAnyK_take (i := 11) (v := ?_) rfl (by kernel_rfl) (by kernel_rfl) (by kernel_rfl) (by kernel_rfl) (fun _ _ _ h => h) (Or.inl ⟨by rfl, ?_⟩) hS ?_
 rotate_left 1
 ·intro wq _; go_simp; (try with_reducible rfl)
 try simp only [Act.put, w1z, w2z, w3z, w4z, w5z, w6z]
 refine wpAnyK_one (i := 12) (by kernel_rfl) rfl (fun K' hK => ?_)
 go_simp
 go_at_call 159
 refine HCB.out.mono ?_
 rintro e w2 ⟨rfl, y2⟩
 have HX2 := zh (HXD.out.below y2)
 have HB2 := zh (below_tr HBD.out y2 HBD.out.size)
 clear y2
 refine hK.out _ _ (fun _ => ⟨HX2.out.cells.1, by rw [Lib.cell_of_heap HX2.out.mach]; rfl⟩) (fun hS => ?_)
 replace hS := hS (by decide)
 clear hK K'
 try simp only [Act.put, w1z, w2z, w3z, w4z, w5z, w6z]
 refine wpAnyK_one (i := 13) (by kernel_rfl) rfl (fun K' hK => ?_)
 go_simp
 have hal := (Below.refl _ w2).alloc (Nat.le_refl _) (.cells #[.int .u64 s.a, .int .u64 s.b, .int .u64 s.c, .int .u64 s.d] 100)
 have HX3 := zh (HX2.out.below hal)
 have HB3 := zh (below_tr HB2.out hal HB2.out.size)
 have HNW := zh (heap_alloc_new w2 (.cells #[.int .u64 s.a, .int .u64 s.b, .int .u64 s.c, .int .u64 s.d] 100))
 obtain ⟨W2, hW2⟩ : ∃ W2, w2.heap.size = W2 := ⟨_, rfl⟩
 have HW2 := zh (show W2 < (w2.alloc (.cells #[.int .u64 s.a, .int .u64 s.b, .int .u64 s.c, .int .u64 s.d] 100)).heap.size ∧ w1.heap.size ≤ W2 from ⟨by simp; omega, by rw [← hW2]; exact HB2.out.size⟩)
 rw [hW2] at HNW ⊢
 generalize w2.alloc (.cells #[.int .u64 s.a, .int .u64 s.b, .int .u64 s.c, .int .u64 s.d] 100) = w3 at HX3 HB3 HNW HW2 ⊢
 clear hal hW2
 refine hK.out _ _ (fun _ => ⟨HX3.out.cells.1, by rw [Lib.cell_of_heap HX3.out.mach]; rfl⟩) (fun hS => ?_)
 replace hS := hS (by decide)
 clear hK K'
 try simp only [Act.put, w1z, w2z, w3z, w4z, w5z, w6z]
 refine wpAnyK_one (i := 14) (by kernel_rfl) rfl (fun K' hK => ?_)
 refine step_append_lies _ (by rfl) _ _ _ (by rfl) 0 100 i0 _ 4 32 Tryz.underlying75 HI.out HZ0.out HZ1.out HZ2.out rfl (by omega) (.slice As ns cs) ns (flatW ss) (by rfl) (by have := HX3.out.sets; rw [← HNS.out] at this; exact this) ⟨W2, 0, none⟩ 1 1 [.int .u64 s.a, .int .u64 s.b, .int .u64 s.c, .int .u64 s.d] (by rfl) (by rfl) (World.news_of_block (cs := #[.int .u64 s.a, .int .u64 s.b, .int .u64 s.c, .int .u64 s.d]) (t := 100) (fr := (0, 0)) HNW.out) (by simp [Value.oneCell']) (by omega) (by unfold maxLen; omega) (by omega) (Nat.zero_le _) w3.heap.size rfl ?_
 intro gg cap6 w6 hown6 hgrow6 hat6 hlt6
 have HM6 := zh ((hgrow6.block mb (lt_of_heap HX3.out.mach) (own_not HX3.out.sets HX3.out.mach (by decide))).trans HX3.out.mach)
 have HB6 := zh ((hgrow6.block bb (lt_of_heap HX3.out.bld) (own_not HX3.out.sets HX3.out.bld (by decide))).trans HX3.out.bld)
 have HP := zh (HX.out.sets_push (gg := gg) (n1 := ns + 1) (cap := cap6) (s := s) (by obtain ⟨es, clk, h9⟩ := HGB.out; exact ⟨es, clk, (HBK.out.block gb (lt_of_heap h9)).trans h9⟩) HB3.out hown6 (by rw [HNS.out]) hgrow6 (hat6.imp id (fun h => by have := HB3.out.size; omega)))
 clear hown6 hgrow6 hat6 hlt6
 refine hK.out _ _ (fun _ => ⟨by rw [Lib.cell_of_heap HB6.out]; rfl, by rw [Lib.cell_of_heap HM6.out]; rfl⟩) (fun hS => ?_)
 replace hS := hS (by decide)
 clear hK K'
 try simp only [Act.put, w1z, w2z, w3z, w4z, w5z, w6z]
 refine wpAnyK_one (i := 15) (by kernel_rfl) rfl (fun K' hK => ?_)
 go_simp
 refine hK.out _ _ (fun _ => hS) (fun hS => ?_)
 replace hS := hS (by decide)
 clear hK K'
 try simp only [Act.put, w1z, w2z, w3z, w4z, w5z, w6z]
 refine wpAnyK_one (i := 16) (by kernel_rfl) rfl (fun K' hK => ?_)
 go_simp
 refine hK.out _ _ (fun _ => hS) (fun hS => ?_)
 replace hS := hS (by decide)
 clear hK K'
 try simp only [Act.put, w1z, w2z, w3z, w4z, w5z, w6z]
 have c6 : w6.cell? ⟨mb, 0, none⟩ = some (.slice As ns cs) := hS.2
 have f6 : w6.frozen? ⟨mb, 0, none⟩ = false := Lib.frozen_of_heap HM6.out 0
 refine wpAnyK_one (i := 17) (by kernel_rfl) rfl (fun K' hK => ?_)
 go_simp
 refine hK.out _ _ (fun h => absurd rfl h) (fun _ => ?_)
 clear hK K'
 try simp only [Act.put, w1z, w2z, w3z, w4z, w5z, w6z]
 refine wpAnyK_done (by kernel_rfl) ?_ _
 obtain ⟨X7, HP'⟩ : ∃ X7 : Nat → Prop, Hid (Bd (w6.setCell ⟨mb, 0, none⟩ (.slice (some ⟨gg, 0, none⟩) (ns + 1) cap6)) ⟨bb, mb, gb, cnt, A, c, fv, lv, .slice Ae R ce, gs⟩ X7 (ss ++ [s]) rl F (.slice (some ⟨gg, 0, none⟩) (ns + 1) cap6) (.slice Ar nr cr) ∧ Kb X w1 (w6.setCell ⟨mb, 0, none⟩ (.slice (some ⟨gg, 0, none⟩) (ns + 1) cap6)) ∧ (∀ i, i < w1.heap.size → X7 i → X i)) := ⟨_, HP.out⟩
 generalize w6.setCell ⟨mb, 0, none⟩ (.slice (some ⟨gg, 0, none⟩) (ns + 1) cap6) = w7 at HP' ⊢
 clear HP HM6 HB6 c6 f6 HNW HW2 HX3 HB3 HX2 HB2 HXD HCB HBD
 generalize (.slice (some ⟨gg, 0, none⟩) (ns + 1) cap6 : Value) = sv7 at HP' ⊢
 have b0 : w7.cell? ⟨bb, 0, none⟩ = some (ptr mb) := HP'.out.1.cells.1
 have r1 : w7.cell? ⟨mb, 1, none⟩ = some (.slice Ar nr cr) := by rw [Lib.cell_of_heap HP'.out.1.mach]; rfl
 go_wp2_with fail
 refine wp_region_k 20 (fun w' => w'.cell? ⟨bb, 0, none⟩ = some (ptr mb) ∧ w'.cell? ⟨mb, 1, none⟩ = some (.slice Ar nr cr)) (by kernel_rfl) (⟨b0, r1⟩) ?_
 intro hS
 change wpAnyK _ _ _ _ _ _ 21 (Array.replicate 21 false) _ (World.drew _)
 have HXD := zh (HP'.out.1.below ((Below.refl _ w7).drew))
 have HBD := zh ((Below.refl w7.heap.size w7).drew)
 generalize w7.drew = wd at HXD HBD hS ⊢
 have HCB := zh (rules_any wd mb Ae R ce (by rw [Lib.cell_of_heap HXD.out.mach]; rfl))
 refine wpAnyK_take (i := 0) (v := ?_) rfl (by kernel_rfl) (by kernel_rfl) (by kernel_rfl) (by kernel_rfl) (fun _ _ _ h => h) (Or.inl ⟨by rfl, ?_⟩) hS ?_
 rotate_left 1
 ·intro wq _; go_simp; (try with_reducible rfl)
 try simp only [Act.put, w1z, w2z, w3z, w4z, w5z, w6z]
 refine wpAnyK_take (i := 1) (v := ?_) rfl (by kernel_rfl) (by kernel_rfl) (by kernel_rfl) (by kernel_rfl) (fun _ _ _ h => h) (Or.inl ⟨by rfl, ?_⟩) hS ?_
 rotate_left 1
 ·intro wq _; go_simp; (try with_reducible rfl)
 try simp only [Act.put, w1z, w2z, w3z, w4z, w5z, w6z]
 refine wpAnyK_take (i := 2) (v := ?_) rfl (by kernel_rfl) (by kernel_rfl) (by kernel_rfl) (by kernel_rfl) (fun _ _ _ h => h) (Or.inl ⟨by rfl, ?_⟩) hS ?_
 rotate_left 1
 ·intro wq _; go_simp; (try with_reducible rfl)
 try simp only [Act.put, w1z, w2z, w3z, w4z, w5z, w6z]
 refine wpAnyK_take (i := 3) (v := ?_) rfl (by kernel_rfl) (by kernel_rfl) (by kernel_rfl) (by kernel_rfl) (fun _ _ _ h => h) (Or.inl ⟨by rfl, ?_⟩) hS ?_
 rotate_left 1
 ·intro wq hq; obtain ⟨q1, q2⟩ := hq; go_simp; (try with_reducible rfl)
 try simp only [Act.put, w1z, w2z, w3z, w4z, w5z, w6z]
 refine wpAnyK_take (i := 4) (v := ?_) rfl (by kernel_rfl) (by kernel_rfl) (by kernel_rfl) (by kernel_rfl) (fun _ _ _ h => h) (Or.inl ⟨by rfl, ?_⟩) hS ?_
 rotate_left 1
 ·intro wq _; go_simp; (try with_reducible rfl)
 try simp only [Act.put, w1z, w2z, w3z, w4z, w5z, w6z]
 refine wpAnyK_take (i := 5) (v := ?_) rfl (by kernel_rfl) (by kernel_rfl) (by kernel_rfl) (by kernel_rfl) (fun _ _ _ h => h) (Or.inl ⟨by rfl, ?_⟩) hS ?_
 rotate_left 1
 ·intro wq _; go_simp; (try with_reducible rfl)
 try simp only [Act.put, w1z, w2z, w3z, w4z, w5z, w6z]
 refine wpAnyK_take (i := 6) (v := ?_) rfl (by kernel_rfl) (by kernel_rfl) (by kernel_rfl) (by kernel_rfl) (fun _ _ _ h => h) (Or.inl ⟨by rfl, ?_⟩) hS ?_
 rotate_left 1
 ·intro wq _; go_simp; (try with_reducible rfl)
 try simp only [Act.put, w1z, w2z, w3z, w4z, w5z, w6z]
 refine wpAnyK_take (i := 7) (v := ?_) rfl (by kernel_rfl) (by kernel_rfl) (by kernel_rfl) (by kernel_rfl) (fun _ _ _ h => h) (Or.inl ⟨by rfl, ?_⟩) hS ?_
 rotate_left 1
 ·intro wq hq; obtain ⟨q1, q2⟩ := hq; go_simp; (try with_reducible rfl)
 try simp only [Act.put, w1z, w2z, w3z, w4z, w5z, w6z]
 refine wpAnyK_take (i := 8) (v := ?_) rfl (by kernel_rfl) (by kernel_rfl) (by kernel_rfl) (by kernel_rfl) (fun _ _ _ h => h) (Or.inl ⟨by rfl, ?_⟩) hS ?_
 rotate_left 1
 ·intro wq _; go_simp; (try with_reducible rfl)
 try simp only [Act.put, w1z, w2z, w3z, w4z, w5z, w6z]
 refine wpAnyK_take (i := 9) (v := ?_) rfl (by kernel_rfl) (by kernel_rfl) (by kernel_rfl) (by kernel_rfl) (fun _ _ _ h => h) (Or.inl ⟨by rfl, ?_⟩) hS ?_
 rotate_left 1
 ·intro wq _; go_simp; (try with_reducible rfl)
 try simp only [Act.put, w1z, w2z, w3z, w4z, w5z, w6z]
 refine wpAnyK_take (i := 10) (v := ?_) rfl (by kernel_rfl) (by kernel_rfl) (by kernel_rfl) (by kernel_rfl) (fun _ _ _ h => h) (Or.inl ⟨by rfl, ?_⟩) hS ?_
 rotate_left 1
 ·intro wq hq; obtain ⟨q1, q2⟩ := hq; go_simp; (try with_reducible rfl)
 try simp only [Act.put, w1z, w2z, w3z, w4z, w5z, w6z]
 refine wpAnyK_take (i := 11) (v := ?_) rfl (by kernel_rfl) (by kernel_rfl) (by kernel_rfl) (by kernel_rfl) (fun _ _ _ h => h) (Or.inl ⟨by rfl, ?_⟩) hS ?_
 rotate_left 1
 ·intro wq _; go_simp; (try with_reducible rfl)
 try simp only [Act.put, w1z, w2z, w3z, w4z, w5z, w6z]
 refine wpAnyK_take (i := 12) (v := ?_) rfl (by kernel_rfl) (by kernel_rfl) (by kernel_rfl) (by kernel_rfl) (fun _ _ _ h => h) (Or.inl ⟨by rfl, ?_⟩) hS ?_
 rotate_left 1
 ·intro wq _; go_simp; (try with_reducible rfl)
 try simp only [Act.put, w1z, w2z, w3z, w4z, w5z, w6z]
 refine wpAnyK_take (i := 13) (v := ?_) rfl (by kernel_rfl) (by kernel_rfl) (by kernel_rfl) (by kernel_rfl) (fun _ _ _ h => h) (Or.inl ⟨by rfl, ?_⟩) hS ?_
 rotate_left 1
 ·intro wq _; go_simp; (try with_reducible rfl)
 try simp only [Act.put, w1z, w2z, w3z, w4z, w5z, w6z]
 refine wpAnyK_take (i := 14) (v := ?_) rfl (by kernel_rfl) (by kernel_rfl) (by kernel_rfl) (by kernel_rfl) (fun _ _ _ h => h) (Or.inl ⟨by rfl, ?_⟩) hS ?_
 rotate_left 1
 ·intro wq hq; obtain ⟨q1, q2⟩ := hq; go_simp; (try with_reducible rfl)
 try simp only [Act.put, w1z, w2z, w3z, w4z, w5z, w6z]
 refine wpAnyK_one (i := 15) (by kernel_rfl) rfl (fun K' hK => ?_)
 go_simp
 go_at_call 18
 refine HCB.out.mono ?_
 rintro e w2 ⟨rfl, rfl⟩
 refine hK.out _ _ (fun _ => hS) (fun hS => ?_)
 replace hS := hS (by decide)
 clear hK K'
 try simp only [Act.put, w1z, w2z, w3z, w4z, w5z, w6z]
 refine wpAnyK_one (i := 16) (by kernel_rfl) rfl (fun K' hK => ?_)
 go_simp
 have hal := (Below.refl _ w2).alloc (Nat.le_refl _) (.cells #[pv R] 3)
 have HX3 := zh (HXD.out.below hal)
 have HB3 := zh (below_tr HBD.out hal HBD.out.size)
 have HNW := zh (heap_alloc_new w2 (.cells #[pv R] 3))
 obtain ⟨W2, hW2⟩ : ∃ W2, w2.heap.size = W2 := ⟨_, rfl⟩
 rw [hW2] at HNW ⊢
 generalize w2.alloc (.cells #[pv R] 3) = w3 at HX3 HB3 HNW ⊢
 clear hal hW2
 refine hK.out _ _ (fun _ => ⟨HX3.out.cells.1, by rw [Lib.cell_of_heap HX3.out.mach]; rfl⟩) (fun hS => ?_)
 replace hS := hS (by decide)
 clear hK K'
 try simp only [Act.put, w1z, w2z, w3z, w4z, w5z, w6z]
 refine wpAnyK_one (i := 17) (by kernel_rfl) rfl (fun K' hK => ?_)
 refine step_append_lies _ (by rfl) _ _ _ (by rfl) 0 3 i1 _ 1 8 Tryz.underlying32 HJ.out HY0.out HY1.out HY2.out rfl (by omega) (.slice Ar nr cr) nr (rl.map pv) (by rfl) (by have := HX3.out.rules; rw [← HNR.out] at this; exact this) ⟨W2, 0, none⟩ 1 1 [pv R] (by rfl) (by rfl) (World.news_of_block (cs := #[pv R]) (t := 3) (fr := (0, 0)) HNW.out) (by simp [Value.oneCell']) (by omega) (by unfold maxLen; omega) (by omega) (Nat.zero_le _) w3.heap.size rfl ?_
 intro gh cap7 w6 hown6 hgrow6 hat6 hlt6
 have HM6 := zh ((hgrow6.block mb (lt_of_heap HX3.out.mach) (own_not HX3.out.rules HX3.out.mach (by decide))).trans HX3.out.mach)
 have HB6 := zh ((hgrow6.block bb (lt_of_heap HX3.out.bld) (own_not HX3.out.rules HX3.out.bld (by decide))).trans HX3.out.bld)
 have HP := zh (HP'.out.1.rules_push (gg := gh) (n1 := nr + 1) (cap := cap7) (R := R) (by obtain ⟨es, clk, h9⟩ := HGB.out; exact ⟨es, clk, (HP'.out.2.1.block gb (lt_of_heap ((HBK.out.block gb (lt_of_heap h9)).trans h9)) HX.out.xg).trans ((HBK.out.block gb (lt_of_heap h9)).trans h9)⟩) HB3.out hown6 (by rw [HNR.out]) hgrow6 (hat6.imp id (fun h => by have := HB3.out.size; omega)))
 clear hown6 hgrow6 hat6 hlt6
 refine hK.out _ _ (fun _ => ⟨by rw [Lib.cell_of_heap HB6.out]; rfl, by rw [Lib.cell_of_heap HM6.out]; rfl⟩) (fun hS => ?_)
 replace hS := hS (by decide)
 clear hK K'
 try simp only [Act.put, w1z, w2z, w3z, w4z, w5z, w6z]
 refine wpAnyK_one (i := 18) (by kernel_rfl) rfl (fun K' hK => ?_)
 go_simp
 refine hK.out _ _ (fun _ => hS) (fun hS => ?_)
 replace hS := hS (by decide)
 clear hK K'
 try simp only [Act.put, w1z, w2z, w3z, w4z, w5z, w6z]
 refine wpAnyK_one (i := 19) (by kernel_rfl) rfl (fun K' hK => ?_)
 go_simp
 refine hK.out _ _ (fun _ => hS) (fun hS => ?_)
 replace hS := hS (by decide)
 clear hK K'
 try simp only [Act.put, w1z, w2z, w3z, w4z, w5z, w6z]
 have c6 : w6.cell? ⟨mb, 1, none⟩ = some (.slice Ar nr cr) := hS.2
 have f6 : w6.frozen? ⟨mb, 1, none⟩ = false := Lib.frozen_of_heap HM6.out 1
 refine wpAnyK_one (i := 20) (by kernel_rfl) rfl (fun K' hK => ?_)
 go_simp
 refine hK.out _ _ (fun h => absurd rfl h) (fun _ => ?_)
 clear hK K'
 try simp only [Act.put, w1z, w2z, w3z, w4z, w5z, w6z]
 refine wpAnyK_done (by kernel_rfl) ?_ _
 obtain ⟨X8, HQ'⟩ : ∃ X8 : Nat → Prop, Hid (Bd (w6.setCell ⟨mb, 1, none⟩ (.slice (some ⟨gh, 0, none⟩) (nr + 1) cap7)) ⟨bb, mb, gb, cnt, A, c, fv, lv, .slice Ae R ce, gs⟩ X8 (ss ++ [s]) (rl ++ [R]) F sv7 (.slice (some ⟨gh, 0, none⟩) (nr + 1) cap7) ∧ Kb X7 w7 (w6.setCell ⟨mb, 1, none⟩ (.slice (some ⟨gh, 0, none⟩) (nr + 1) cap7)) ∧ (∀ i, i < w7.heap.size → X8 i → X7 i)) := ⟨_, HP.out⟩
 generalize w6.setCell ⟨mb, 1, none⟩ (.slice (some ⟨gh, 0, none⟩) (nr + 1) cap7) = w8 at HQ' ⊢
 clear HP HM6 HB6 c6 f6 HNW HX3 HB3 HXD HCB HBD b0 r1
 generalize (.slice (some ⟨gh, 0, none⟩) (nr + 1) cap7 : Value) = rv8 at HQ' ⊢
 have hmm := @run_makeMap Tryz.prog
 have HK8 := zh (show Kb X w w8 from ((Kb.of_below X HBK.out).trans HP'.out.2.1 (fun _ _ h => h)).trans HQ'.out.2.1 (fun i hi h => HP'.out.2.2 i (by have := HBK.out.size; omega) h))
 have hcb8 : w8.heap[w.heap.size]? = some (.cells #[.map none, .map none, .bool false] 142 (0, 0)) := by
  have h1 := lt_of_heap HCK.out
  have h2 : ¬ X w.heap.size := fun e => Nat.lt_irrefl _ (HX0.out.xl _ e)
  have h3 := (HP'.out.2.1.block _ h1 h2).trans HCK.out
  exact (HQ'.out.2.1.block _ (lt_of_heap h3) (fun e => h2 (HP'.out.2.2 _ h1 e))).trans h3
 obtain ⟨m1, hm1⟩ : ∃ m1, w8.heap.size = m1 := ⟨_, rfl⟩
 have hp1 := PsAt.made w8
 have hb1 := (Below.refl _ w8).alloc (Nat.le_refl _) (.map #[] 0)
 rw [hm1] at hp1
 have HP1 := zh hp1; have HB1 := zh hb1
 have tok : True := trivial
 go_wp2_with (first
  | (have _t := tok; refine wpList_ps_insert _ rfl _ _ _ 140 rfl Tryz.underlying3 Tryz.underlying140 rfl HP1.out ns rfl rfl (by simp) ?_; intro w9 hput9 hg9; clear tok; have hcb9 := (hg9.block w.heap.size (by have := lt_of_heap hcb8; have := HB1.out.size; omega) (fun e => by have := Option.some.inj e; have := lt_of_heap hcb8; omega)).trans ((HB1.out.block _ (lt_of_heap hcb8)).trans hcb8))
  | (refine wpList_ps_insert _ rfl _ _ _ 140 rfl Tryz.underlying3 Tryz.underlying140 rfl (PsAt.made _) ns rfl rfl (by simp) ?_; intro w10 hput10 hg10; have hcb10 := (hg10.block w.heap.size (by have := lt_of_heap hcb9; simp; omega) (fun e => by have := Option.some.inj e; have := lt_of_heap hcb9; omega)).trans ((((Below.refl _ w9).alloc (Nat.le_refl _) (.map #[] 0)).block _ (lt_of_heap hcb9)).trans hcb9); have z0 : w10.cell? ⟨w.heap.size, 0, none⟩ = some (.map none) := (by rw [Lib.cell_of_heap hcb10]; rfl); have z1 : w10.cell? ⟨w.heap.size, 1, none⟩ = some (.map none) := (by rw [Lib.cell_of_heap hcb10]; rfl); have z2 : w10.cell? ⟨w.heap.size, 2, none⟩ = some (.bool false) := (by rw [Lib.cell_of_heap hcb10]; rfl); have f0 : w10.frozen? ⟨w.heap.size, 0, none⟩ = false := Lib.frozen_of_heap hcb10 0; have f1 : w10.frozen? ⟨w.heap.size, 1, none⟩ = false := Lib.frozen_of_heap hcb10 1; have f2 : w10.frozen? ⟨w.heap.size, 2, none⟩ = false := Lib.frozen_of_heap hcb10 2))
 have HPA := zh (And.intro hput9 (And.intro hg9 (And.intro hput10 (And.intro hg10 hcb10))))
 clear hput9 hg9 hput10 hg10 hcb9 hcb10 hcb8 hp1 hb1 z0 z1 z2 f0 f1 f2
 obtain ⟨hput9, hg9, hput10, hg10, hcb10⟩ := HPA.out
 obtain ⟨hh, hkk⟩ := set3 hcb10 (.map (some m1)) (.map (some w9.heap.size)) (.bool false)
 have hB9 : Below w8.heap.size w8 w9 := HB1.out.grown hg9 HB1.out.size (fun j hj => by have := Option.some.inj hj; omega)
 have hB10 : Below w8.heap.size w8 w10 := (hB9.alloc hB9.size (.map #[] 0)).grown hg10 (by simp; have := hB9.size; omega) (fun j hj => by have := Option.some.inj hj; have := hB9.size; omega)
 refine bodyPost_ret (results_cell_row rfl _ _ w.heap.size 142 #[.map (some m1), .map (some w9.heap.size), .bool false] (0, 0) _ rfl hh Tryz.underlying142 rfl (by kernel_rfl)) rfl ?_
 have hbd := (HQ'.out.1.below hB10).other hkk hcb10 (by decide)
 have hw8 := HK8.out.size
 have h98 : m1 < w9.heap.size := by have := hput9.lt; omega
 have hwlt : w.heap.size < m1 := by
  have h1 := lt_of_heap HCK.out
  have h2 := HP'.out.2.1.size
  have h3 := HQ'.out.2.1.size
  omega
 have hXb : ∀ q, m1 ≤ q → ¬ X8 q := fun q hq h => by
  have := HQ'.out.1.xl q h
  omega
 refine ⟨_, some m1, some w9.heap.size, _, _, rfl, hbd, ?_, ?_, by simp [Rx.core], by simp [Rx.core], ?_, fun q hq e => by have h1 := Option.some.inj hq; have h2 := Option.some.inj e; omega, ?_, fun i hi h => HP'.out.2.2 i (by have := HBK.out.size; omega) (HQ'.out.2.2 i (by have h1 := HP'.out.2.1.size; have := HBK.out.size; omega) h)⟩
 ·have h1 : PsAt w10 m1 ([] ++ [ns]) := hput9.keep ((hg10.block m1 (by simp; omega) (fun e => by have := Option.some.inj e; omega)).trans (((Below.refl _ w9).alloc (Nat.le_refl _) (.map #[] 0)).block m1 h98))
  have h2 := h1.keep (hkk.block m1 h1.lt (fun e => by omega))
  show PsAt _ m1 [ss.length]
  rw [← HNS.out]
  simpa using h2
 ·have h2 := hput10.keep (hkk.block _ hput10.lt (fun e => by omega))
  show PsAt _ w9.heap.size [ss.length]
  rw [← HNS.out]
  simpa using h2
 ·rintro q (h | h)
  ·have h1 := Option.some.inj h
   exact ⟨by omega, hXb q (by omega)⟩
  ·have h1 := Option.some.inj h
   exact ⟨by omega, hXb q (by omega)⟩
 ·exact (HK8.out.trans (Kb.of_below X hB10) (fun _ _ h => h)).trans hkk (fun i hi h => by omega)
end Go.Proofs.YtejdfpieblkapaaGreatDoor

/- know: a node's positions. -/
namespace Go.Proofs.YtejdfpieblkapaaGreatDoor
open Lib renaming hid → zh
open Go.RowKit Go.Shelf

theorem MpAt.kd {w : World} {b n : Nat} {Kd Kd' : Value → Prop} {f : Value → Option Value} (h : MpAt w b Kd f n) (hd : ∀ k v, f k = some v → Kd' k) : MpAt w b Kd' f n := by
 obtain ⟨es, clock, hb, h1, h2, h3, h4⟩ := h
 exact ⟨es, clock, hb, h1, fun e he => hd e.key e.val ((h4 _ _).2 ⟨e, he, rfl, rfl⟩), h3, h4⟩
structure KH (w : World) (gb : Nat) (f : Value → Option Value) : Prop where
 gm : ∃ m, MpAt w gb (fun _ => True) f m
 go : GsOk w f
theorem KH.map {w : World} {gb : Nat} {f : Value → Option Value} (h : KH w gb f) : ∃ m, MpAt w gb (PtrK w) f m := by
 obtain ⟨m, hm⟩ := h.gm
 refine ⟨m, hm.kd (fun k v hk => ?_)⟩
 obtain ⟨b, r, ks, rfl, hr, _⟩ := h.go k v hk
 exact hr.key
theorem KH.isMap {w : World} {gb : Nat} {f : Value → Option Value} (h : KH w gb f) : ∃ es clk, w.heap[gb]? = some (.map es clk) := by
 obtain ⟨m, es, clk, hb, _⟩ := h.gm
 exact ⟨es, clk, hb⟩
theorem KH.keep {w w' : World} {gb : Nat} {f : Value → Option Value} (h : KH w gb f) (hb : w'.heap[gb]? = w.heap[gb]?) (hk : KN w w') : KH w' gb f := by
 obtain ⟨m, hm⟩ := h.gm
 exact ⟨⟨m, hm.keep hb (fun _ hv => hv)⟩, h.go.keep hk⟩
theorem KH.below {w w' : World} {gb : Nat} {f : Value → Option Value} (h : KH w gb f) (hb : Below w.heap.size w w') : KH w' gb f := by
 obtain ⟨es, clk, h1⟩ := h.isMap
 exact h.keep (hb.block gb (lt_of_heap h1)) (KN.of_below hb)
theorem keyIn_nd' (w : World) : KeyIn Tryz.prog w 68 (PtrK w) := keyIn_nd (Below.refl _ w)
theorem Bd.kn {w w' : World} {p : BP} {X : Nat → Prop} {ss : List Ws} {rl : List Nat} {F : Nat → Nat → Bool} {sv rv : Value} (h : Bd w p X ss rl F sv rv) (hk : Kb X w w') : KN w w' := hk.kn (fun i hi cs t fz hc => by
 obtain ⟨cs', t', h1, h2⟩ := h.xt i hi
 rw [h1] at hc
 injection hc with hc
 injection hc with _ e _
 rw [← e]
 unfold XT at h2
 rcases h2 with h2 | h2 | h2 | h2 <;> rw [h2] <;> decide)
theorem KH.kb {w w' : World} {p : BP} {X : Nat → Prop} {ss : List Ws} {rl : List Nat} {F : Nat → Nat → Bool} {sv rv : Value} {f : Value → Option Value} (h : KH w p.gb f) (hb : Bd w p X ss rl F sv rv) (hk : Kb X w w') : KH w' p.gb f := by
 obtain ⟨es, clk, h1⟩ := h.isMap
 exact h.keep (hk.block _ (lt_of_heap h1) hb.xg) (hb.kn hk)
structure KA (w : World) (p : BP) (X : Nat → Prop) (ss : List Ws) (rl : List Nat) (F : Nat → Nat → Bool) (sv rv : Value) (R : Nat) (f : Value → Option Value) : Prop where
 bd : Bd w p X ss rl F sv rv
 kh : KH w p.gb f
 lens : rl.length = ss.length
 cnt : p.cnt ≤ 2000
 ev : ∃ Ae ce, p.ev = .slice Ae R ce
def KnowOk (n : Nat) : Prop := ∀ (w : World) (p : BP) (X : Nat → Prop) (ss : List Ws) (rl : List Nat) (F : Nat → Nat → Bool) (sv rv : Value) (R : Nat) (f : Value → Option Value) (r : Rx) (b : Nat), r.size ≤ n → KA w p X ss rl F sv rv R f → NdAt w r b → (f (ptr b)).isSome = true → ss.length + r.cnt ≤ p.cnt →
 Calls Tryz.prog 82 #[ptr p.bb, ptr b] w (KnTo w p X ss rl R r (fun x y => F x y || r.fol ss.length x y) r.nul)
def CoreOk (n : Nat) : Prop := ∀ (w : World) (p : BP) (X : Nat → Prop) (ss : List Ws) (rl : List Nat) (F : Nat → Nat → Bool) (sv rv : Value) (R : Nat) (f : Value → Option Value) (k r : Rx) (b : Nat), k.size ≤ n → r.core = some k → KA w p X ss rl F sv rv R f → NdAt w k b → (f (ptr b)).isSome = true → ss.length + k.cnt ≤ p.cnt →
 Calls Tryz.prog 121 #[ptr p.bb, ptr b] w (KnTo w p X ss rl R k (fun x y => F x y || k.fol ss.length x y) false)
structure KBx (w w3 : World) (k : Nat) (c : Value) (s : Bool) : Prop where
 b0 : w3.heap[w.heap.size]? = some (.cells #[.map none, .map none, .bool false] 142 (0, 0))
 b1 : w3.heap[w.heap.size + 1]? = some (.cells #[.int .i64 k, c, .bool s] 85 (0, 0))
 b2 : w3.heap[w.heap.size + 2]? = some (.cells #[.map none, .map none, .bool false] 142 (0, 0))
 bl : Below w.heap.size w w3
theorem KBx.made (w : World) (k : Nat) (c : Value) (s : Bool) : KBx w (((w.alloc (.cells #[.map none, .map none, .bool false] 142)).alloc (.cells #[.int .i64 k, c, .bool s] 85)).alloc (.cells #[.map none, .map none, .bool false] 142)) k c s := by
 have h1 := heap_alloc_new w (.cells #[.map none, .map none, .bool false] 142)
 have h2 := heap_alloc_new (w.alloc (.cells #[.map none, .map none, .bool false] 142)) (.cells #[.int .i64 k, c, .bool s] 85)
 have h3 := heap_alloc_new ((w.alloc (.cells #[.map none, .map none, .bool false] 142)).alloc (.cells #[.int .i64 k, c, .bool s] 85)) (.cells #[.map none, .map none, .bool false] 142)
 have e1 : (w.alloc (.cells #[.map none, .map none, .bool false] 142)).heap.size = w.heap.size + 1 := by simp
 have e2 : ((w.alloc (.cells #[.map none, .map none, .bool false] 142)).alloc (.cells #[.int .i64 k, c, .bool s] 85)).heap.size = w.heap.size + 2 := by simp
 rw [e1] at h2
 rw [e2] at h3
 exact ⟨(Below.heap_alloc _ _ _ (by rw [e2]; omega)).trans ((Below.heap_alloc _ _ _ (by rw [e1]; omega)).trans h1), (Below.heap_alloc _ _ _ (by rw [e2]; omega)).trans h2, h3, (((Below.refl _ w).alloc (Nat.le_refl _) _).alloc (by rw [e1]; omega) _).alloc (by rw [e2]; omega) _⟩


theorem PsO.keepc {w w' : World} {ex : Nat → Prop} : ∀ {o : Option Nat} {l : List Nat}, PsO w o l → Kb ex w w' → (∀ i, ex i → ∃ cs t fz, w.heap[i]? = some (.cells cs t fz)) → PsO w' o l
 | none, _, h, _, _ => h
 | some b, l, h, hk, hx => by
  have h' : PsAt w b l := h
  refine PsAt.keep h' (hk.block b h'.lt (fun e => ?_))
  obtain ⟨cs, t, fz, h1⟩ := hx b e
  obtain ⟨es, clk, h2⟩ := h'.isMap
  rw [h1] at h2; cases h2
structure KT (w w4 : World) (p : BP) (X : Nat → Prop) (ss : List Ws) (rl : List Nat) (R : Nat) (r : Rx) (F' : Nat → Nat → Bool) (fo lo : Option Nat) (b0 b2 : Nat) : Prop where
 ex : ∃ (X' : Nat → Prop) (sv' rv' : Value), Bd w4 p X' (ss ++ r.sts) (rl ++ List.replicate r.cnt R) F' sv' rv' ∧ (∀ q, (fo = some q ∨ lo = some q) → w.heap.size ≤ q ∧ ¬ X' q) ∧ (∀ i, i < w.heap.size → X' i → X i)
 h0 : w4.heap[b0]? = some (.cells #[.map none, .map none, .bool false] 142 (0, 0))
 h2 : w4.heap[b2]? = some (.cells #[.map fo, .map lo, .bool false] 142 (0, 0))
 pf : PsO w4 fo (r.fst ss.length)
 pl : PsO w4 lo (r.lst ss.length)
 nf : fo = none ↔ r.core = none
 nl : lo = none ↔ r.core = none
 dj : ∀ q, fo = some q → lo ≠ some q
 kb : Kb X w w4
 o0 : w.heap.size ≤ b0
 o2 : w.heap.size ≤ b2
 ne : b0 ≠ b2
theorem KT.fin {w w4 : World} {p : BP} {X : Nat → Prop} {ss : List Ws} {rl : List Nat} {R : Nat} {r : Rx} {F' : Nat → Nat → Bool} {fo lo : Option Nat} {b0 b2 : Nat} (h : KT w w4 p X ss rl R r F' fo lo b0 b2) (β : Bool) :
  ((((w4.setCell ⟨b2, 2, none⟩ (.bool β)).setCell ⟨b0, 0, none⟩ (.map fo)).setCell ⟨b0, 1, none⟩ (.map lo)).setCell ⟨b0, 2, none⟩ (.bool β)).heap[b0]? = some (.cells #[.map fo, .map lo, .bool β] 142 (0, 0)) ∧
  KnTo w p X ss rl R r F' β (.returned (.agg #[.map fo, .map lo, .bool β])) ((((w4.setCell ⟨b2, 2, none⟩ (.bool β)).setCell ⟨b0, 0, none⟩ (.map fo)).setCell ⟨b0, 1, none⟩ (.map lo)).setCell ⟨b0, 2, none⟩ (.bool β)) := by
 obtain ⟨⟨X', sv', rv', hb, hq, hx⟩, h0, h2, pf, pl, nf, nl, dj, kb, o0, o2, hne⟩ := h
 have k5 := Kb.setCell w4 ⟨b2, 2, none⟩ (.bool β)
 have hb5 := hb.other k5 h2 (by decide)
 have h05 := (k5.block b0 (lt_of_heap h0) hne).trans h0
 obtain ⟨g1, g2⟩ := set3 h05 (.map fo) (.map lo) (.bool β)
 have hb6 := hb5.other g2 h05 (by decide)
 have kk : Kb (fun i => i = b0 ∨ i = b2) w4 ((((w4.setCell ⟨b2, 2, none⟩ (.bool β)).setCell ⟨b0, 0, none⟩ (.map fo)).setCell ⟨b0, 1, none⟩ (.map lo)).setCell ⟨b0, 2, none⟩ (.bool β)) := (k5.wider (fun i h => .inr h)).trans g2 (fun i _ h => .inl h)
 have hc : ∀ i, (i = b0 ∨ i = b2) → ∃ cs t fz, w4.heap[i]? = some (.cells cs t fz) := by
  rintro i (rfl | rfl)
  ·exact ⟨_, _, _, h0⟩
  ·exact ⟨_, _, _, h2⟩
 exact ⟨g1, X', fo, lo, sv', rv', rfl, hb6, pf.keepc kk hc, pl.keepc kk hc, nf, nl, hq, dj, kb.trans kk (fun i hi h => by omega), hx⟩
theorem KT.kb1 {w w4 w5 : World} {p : BP} {X : Nat → Prop} {ss : List Ws} {rl : List Nat} {R : Nat} {r : Rx} {F' F2 : Nat → Nat → Bool} {fo lo : Option Nat} {b0 b2 : Nat} (h : KT w w4 p X ss rl R r F' fo lo b0 b2) {X' : Nat → Prop} {sv' rv' : Value} (hb : Bd w4 p X' (ss ++ r.sts) (rl ++ List.replicate r.cnt R) F' sv' rv') (hq : ∀ q, (fo = some q ∨ lo = some q) → w.heap.size ≤ q ∧ ¬ X' q) (hx : ∀ i, i < w.heap.size → X' i → X i) (k : Kb X' w4 w5) (hb' : Bd w5 p X' (ss ++ r.sts) (rl ++ List.replicate r.cnt R) F2 sv' rv') : KT w w5 p X ss rl R r F2 fo lo b0 b2 := by
 obtain ⟨_, h0, h2, pf, pl, nf, nl, dj, kb, o0, o2, hne⟩ := h
 have hXc : ∀ i, X' i → ∃ cs t fz, w4.heap[i]? = some (.cells cs t fz) := fun i hi => by
  obtain ⟨cs, t, h1, _⟩ := hb.xt i hi
  exact ⟨cs, t, _, h1⟩
 have nx : ∀ (b : Nat) (cs : Array Value), w4.heap[b]? = some (.cells cs 142 (0, 0)) → ¬ X' b := fun b cs h1 hX => by
  obtain ⟨cs', t, h3, h4⟩ := hb.xt b hX
  rw [h1] at h3
  injection h3 with h3
  injection h3 with _ h3 _
  rw [← h3] at h4
  revert h4; unfold XT; decide
 exact ⟨⟨X', sv', rv', hb', hq, hx⟩, (k.block _ (lt_of_heap h0) (nx _ _ h0)).trans h0, (k.block _ (lt_of_heap h2) (nx _ _ h2)).trans h2, pf.keepc k hXc, pl.keepc k hXc, nf, nl, dj, kb.trans k (fun i hi h => hx i hi h), o0, o2, hne⟩
theorem KT.nd {w w4 : World} {p : BP} {X : Nat → Prop} {ss : List Ws} {rl : List Nat} {R : Nat} {r : Rx} {F' : Nat → Nat → Bool} {fo lo : Option Nat} {b0 b2 : Nat} (h : KT w w4 p X ss rl R r F' fo lo b0 b2) {sv rv : Value} {F : Nat → Nat → Bool} (hb : Bd w p X ss rl F sv rv) {r' : Rx} {b : Nat} (hn : NdAt w r' b) : NdAt w4 r' b := hn.keep (hb.kn h.kb)
theorem KA.below {w w' : World} {p : BP} {X : Nat → Prop} {ss : List Ws} {rl : List Nat} {F : Nat → Nat → Bool} {sv rv : Value} {R : Nat} {f : Value → Option Value} (h : KA w p X ss rl F sv rv R f) (hb : Below w.heap.size w w') : KA w' p X ss rl F sv rv R f := ⟨h.bd.below hb, h.kh.below hb, h.lens, h.cnt, h.ev⟩
theorem KBx.kt {w w3 : World} {k : Nat} {c : Value} {s : Bool} {p : BP} {X : Nat → Prop} {ss : List Ws} {rl : List Nat} {F : Nat → Nat → Bool} {sv rv : Value} {R : Nat} {f : Value → Option Value} {r : Rx} (h : KA w p X ss rl F sv rv R f) (hx : KBx w w3 k c s) (hc : r.core = none) : KT w w3 p X ss rl R r (fun x y => F x y || r.fol ss.length x y) none none w.heap.size (w.heap.size + 2) := by
 have hc0 := r.core_none.1 hc
 have hF : (fun x y => F x y || r.fol ss.length x y) = F := by funext x y; rw [r.no_fol _ _ _ hc0, Bool.or_false]
 refine ⟨⟨X, sv, rv, ?_, by simp, fun _ _ h => h⟩, hx.b0, hx.b2, ?_, ?_, by simp [hc], by simp [hc], by simp, Kb.of_below X hx.bl, Nat.le_refl _, by omega, by omega⟩
 ·rw [hF, r.no_sts hc0, hc0, List.append_nil, List.replicate_zero, List.append_nil]
  exact h.bd.below hx.bl
 ·rw [r.no_fst _ hc0]; rfl
 ·rw [r.no_lst _ hc0]; rfl

set_option maxRecDepth 100000 in
set_option maxHeartbeats 4000000 in
theorem know_none (w : World) (p : BP) (X : Nat → Prop) (ss : List Ws) (rl : List Nat) (F : Nat → Nat → Bool) (sv rv : Value) (R : Nat) (f : Value → Option Value) (r : Rx) (b : Nat) (h : KA w p X ss rl F sv rv R f) (hn : NdAt w r b) (hf : (f (ptr b)).isSome = true) (hc : r.core = none) :
  Calls Tryz.prog 82 #[ptr p.bb, ptr b] w (KnTo w p X ss rl R r (fun x y => F x y || r.fol ss.length x y) r.nul) := by
 obtain ⟨v, hv⟩ := Option.isSome_iff_exists.1 hf
 obtain ⟨⟨cv, hvv, hcv⟩, _⟩ := h.kh.go.at hn hv
 have hcv' : cv = .pointer none := by
  rcases hcv with ⟨_, e⟩ | ⟨k, bk, e, _⟩
  ·exact e
  ·rw [hc] at e; cases e
 subst hcv'
 obtain ⟨m, hm⟩ := h.kh.map
 have hwk : Below w.heap.size w (w.alloc (.cells #[.map none, .map none, .bool false] 142)) := (Below.refl _ w).alloc (Nat.le_refl _) _
 obtain ⟨m', hm'⟩ := (h.kh.below hwk).map
 have HMP := zh hm'
 have HKD := zh ((hn.keep (KN.of_below hwk)).key)
 have HKI := zh (keyIn_nd' (w.alloc (.cells #[.map none, .map none, .bool false] 142)))
 obtain ⟨kc, hkc⟩ : ∃ kc, kc = min r.cnt 2001 := ⟨_, rfl⟩
 rw [← hkc] at hvv
 have HGS := zh (rfl : r.gst = r.gst)
 obtain ⟨gs, hgs⟩ : ∃ gs, gs = r.gst := ⟨_, rfl⟩
 rw [← hgs] at hvv
 have HLK := zh (show (if false = true then Value.tuple #[(f (ptr b)).getD zG, .bool (f (ptr b)).isSome] else (f (ptr b)).getD zG) = .agg #[.int .i64 kc, Value.pointer none, .bool gs] by rw [if_neg (by decide), hv, Option.getD_some, hvv])
 have hb3 := KBx.made w kc (Value.pointer none) gs
 have c1 : (w.alloc (.cells #[.map none, .map none, .bool false] 142)).cell? ⟨p.bb, 1, none⟩ = some (.map (some p.gb)) := by rw [Lib.cell_of_heap (h.bd.below hwk).bld]; rfl
 have HX := zh h; have HN := zh hn; have HC := zh hc
 have HSG := zh hgs
 obtain ⟨β, hnl⟩ : ∃ β, β = r.nul := ⟨_, rfl⟩
 have HNL := zh hnl
 rw [← hnl]
 obtain ⟨Fr, hFr⟩ : ∃ Fr, Fr = (fun x y => F x y || r.fol ss.length x y) := ⟨_, rfl⟩
 rw [← hFr]
 have HFR := zh hFr
 obtain ⟨b0, hb0⟩ : ∃ b0, b0 = w.heap.size := ⟨_, rfl⟩
 obtain ⟨b1, hb1⟩ : ∃ b1, b1 = w.heap.size + 1 := ⟨_, rfl⟩
 obtain ⟨b2, hb2⟩ : ∃ b2, b2 = w.heap.size + 2 := ⟨_, rfl⟩
 have HB0 := zh hb0; have HB1 := zh hb1; have HB2 := zh hb2
 clear hFr hm hm' hwk hgs hkc hv hvv hf hnl HGS h hn hc hcv
 go_enter Tryz.func82, Tryz.ntmps82
 go_upto_region 3 with (at_lookup; refine wpList_mp_look _ rfl _ _ 80 false rfl HKI.out Tryz.underlying80 (Tryz.zeroValue85 _) rfl HMP.out (ptr b) rfl HKD.out (.agg #[.int .i64 kc, Value.pointer none, .bool gs]) HLK.out ?_)
 rw [show w.heap.size + 1 + 1 = b2 from hb2.symm, show w.heap.size + 1 = b1 from hb1.symm, show w.heap.size = b0 from hb0.symm]
 clear HMP HKD HKI HLK c1 hb0 hb1 hb2
 generalize (((w.alloc (.cells #[.map none, .map none, .bool false] 142)).alloc (.cells #[.int .i64 kc, Value.pointer none, .bool gs] 85)).alloc (.cells #[.map none, .map none, .bool false] 142)) = w3 at hb3 ⊢
 have HB3 := zh hb3
 have c11 : w3.cell? ⟨b1, 1, none⟩ = some (Value.pointer none) := by rw [HB1.out, Lib.cell_of_heap hb3.b1]; rfl
 have c12 : w3.cell? ⟨b1, 2, none⟩ = some (.bool gs) := by rw [HB1.out, Lib.cell_of_heap hb3.b1]; rfl
 clear hb3
 have HT := zh (HB3.out.kt HX.out HC.out)
 rw [← HB0.out, show b0 + 2 = b2 by rw [HB0.out, HB2.out]] at HT
 rw [← HFR.out] at HT
 have d20 : w3.cell? ⟨b2, 0, none⟩ = some (.map none) := by rw [Lib.cell_of_heap HT.out.h2]; rfl
 have d21 : w3.cell? ⟨b2, 1, none⟩ = some (.map none) := by rw [Lib.cell_of_heap HT.out.h2]; rfl
 cases gs with
 | false =>
  go_upto_region 7 with fail
  have HNA := zh (nullable_any w3 r b (HT.out.nd HX.out.bd HN.out))
  rw [← HNL.out] at HNA
  have t0 : w3.cell? ⟨b0, 0, none⟩ = some (.map none) := by rw [Lib.cell_of_heap HT.out.h0]; rfl
  have t22 : w3.cell? ⟨b2, 2, none⟩ = some (.bool false) := by rw [Lib.cell_of_heap HT.out.h2]; rfl
  have f22 : w3.frozen? ⟨b2, 2, none⟩ = false := Lib.frozen_of_heap HT.out.h2 2
  go_wp2_with fail
  refine HNA.out.mono ?_
  rintro e w7 ⟨rfl, rfl⟩
  have HF := zh (HT.out.fin β)
  have h25 : (w7.setCell ⟨b2, 2, none⟩ (.bool β)).heap[b2]? = some (.cells #[.map none, .map none, .bool β] 142 (0, 0)) := by rw [set_heap w7 b2 2 _ _ _ _ HT.out.h2]; rfl
  have h05 : (w7.setCell ⟨b2, 2, none⟩ (.bool β)).heap[b0]? = some (.cells #[.map none, .map none, .bool false] 142 (0, 0)) := ((Kb.setCell w7 ⟨b2, 2, none⟩ (.bool β)).block b0 (lt_of_heap HT.out.h0) HT.out.ne).trans HT.out.h0
  have d0 : (w7.setCell ⟨b2, 2, none⟩ (.bool β)).cell? ⟨b2, 0, none⟩ = some (.map none) := by rw [Lib.cell_of_heap h25]; rfl
  have d1 : (w7.setCell ⟨b2, 2, none⟩ (.bool β)).cell? ⟨b2, 1, none⟩ = some (.map none) := by rw [Lib.cell_of_heap h25]; rfl
  have d2 : (w7.setCell ⟨b2, 2, none⟩ (.bool β)).cell? ⟨b2, 2, none⟩ = some (.bool β) := by rw [Lib.cell_of_heap h25]; rfl
  have e0 : (w7.setCell ⟨b2, 2, none⟩ (.bool β)).cell? ⟨b0, 0, none⟩ = some (.map none) := by rw [Lib.cell_of_heap h05]; rfl
  have e1 : (w7.setCell ⟨b2, 2, none⟩ (.bool β)).cell? ⟨b0, 1, none⟩ = some (.map none) := by rw [Lib.cell_of_heap h05]; rfl
  have e2 : (w7.setCell ⟨b2, 2, none⟩ (.bool β)).cell? ⟨b0, 2, none⟩ = some (.bool false) := by rw [Lib.cell_of_heap h05]; rfl
  have g0 : (w7.setCell ⟨b2, 2, none⟩ (.bool β)).frozen? ⟨b0, 0, none⟩ = false := Lib.frozen_of_heap h05 0
  have g1 : (w7.setCell ⟨b2, 2, none⟩ (.bool β)).frozen? ⟨b0, 1, none⟩ = false := Lib.frozen_of_heap h05 1
  have g2 : (w7.setCell ⟨b2, 2, none⟩ (.bool β)).frozen? ⟨b0, 2, none⟩ = false := Lib.frozen_of_heap h05 2
  clear h25 h05
  go_upto_region 8 with fail
  generalize hws : w7.setCell ⟨b2, 2, none⟩ (.bool β) = ws at HF d0 d1 d2 e0 e1 e2 g0 g1 g2 ⊢
  go_wp2
  refine bodyPost_ret (results_cell_row rfl _ _ b0 142 #[.map none, .map none, .bool β] (0, 0) _ rfl HF.out.1 Tryz.underlying142 rfl (by kernel_rfl)) rfl HF.out.2
 | true =>
  have HBN : Hid (∃ (X' : Nat → Prop) (sv' rv' : Value), Calls Tryz.prog 122 #[ptr p.bb, .map none, .map none] w3 fun e w' => e = .returned (.tuple #[]) ∧ KT w w' p X ss rl R r Fr none none b0 b2) := zh (by
   have h1 := HT.out
   obtain ⟨X', sv', rv', hb, hq, hx⟩ := h1.ex
   refine ⟨X', sv', rv', (behind_nil w3 p X' _ _ _ sv' rv' hb (by have := HX.out.cnt; omega)).mono ?_⟩
   rintro e w' ⟨rfl, q1, q2⟩
   exact ⟨rfl, h1.kb1 hb hq hx (Kb.of_below _ q2) q1⟩)
  obtain ⟨_, _, _, hbn⟩ := HBN.out
  have HBC := zh hbn
  clear hbn HBN
  go_upto_region 7 with fail
  refine HBC.out.mono ?_
  rintro e w5 ⟨rfl, ht5⟩
  have HT5 := zh ht5
  clear ht5 HT d20 d21 c11 c12
  go_upto_region 7 with fail
  have HT := HT5
  clear HT5
  have HNA := zh (nullable_any w5 r b (HT.out.nd HX.out.bd HN.out))
  rw [← HNL.out] at HNA
  have t0 : w5.cell? ⟨b0, 0, none⟩ = some (.map none) := by rw [Lib.cell_of_heap HT.out.h0]; rfl
  have t22 : w5.cell? ⟨b2, 2, none⟩ = some (.bool false) := by rw [Lib.cell_of_heap HT.out.h2]; rfl
  have f22 : w5.frozen? ⟨b2, 2, none⟩ = false := Lib.frozen_of_heap HT.out.h2 2
  go_wp2_with fail
  refine HNA.out.mono ?_
  rintro e w7 ⟨rfl, rfl⟩
  have HF := zh (HT.out.fin β)
  have h25 : (w7.setCell ⟨b2, 2, none⟩ (.bool β)).heap[b2]? = some (.cells #[.map none, .map none, .bool β] 142 (0, 0)) := by rw [set_heap w7 b2 2 _ _ _ _ HT.out.h2]; rfl
  have h05 : (w7.setCell ⟨b2, 2, none⟩ (.bool β)).heap[b0]? = some (.cells #[.map none, .map none, .bool false] 142 (0, 0)) := ((Kb.setCell w7 ⟨b2, 2, none⟩ (.bool β)).block b0 (lt_of_heap HT.out.h0) HT.out.ne).trans HT.out.h0
  have d0 : (w7.setCell ⟨b2, 2, none⟩ (.bool β)).cell? ⟨b2, 0, none⟩ = some (.map none) := by rw [Lib.cell_of_heap h25]; rfl
  have d1 : (w7.setCell ⟨b2, 2, none⟩ (.bool β)).cell? ⟨b2, 1, none⟩ = some (.map none) := by rw [Lib.cell_of_heap h25]; rfl
  have d2 : (w7.setCell ⟨b2, 2, none⟩ (.bool β)).cell? ⟨b2, 2, none⟩ = some (.bool β) := by rw [Lib.cell_of_heap h25]; rfl
  have e0 : (w7.setCell ⟨b2, 2, none⟩ (.bool β)).cell? ⟨b0, 0, none⟩ = some (.map none) := by rw [Lib.cell_of_heap h05]; rfl
  have e1 : (w7.setCell ⟨b2, 2, none⟩ (.bool β)).cell? ⟨b0, 1, none⟩ = some (.map none) := by rw [Lib.cell_of_heap h05]; rfl
  have e2 : (w7.setCell ⟨b2, 2, none⟩ (.bool β)).cell? ⟨b0, 2, none⟩ = some (.bool false) := by rw [Lib.cell_of_heap h05]; rfl
  have g0 : (w7.setCell ⟨b2, 2, none⟩ (.bool β)).frozen? ⟨b0, 0, none⟩ = false := Lib.frozen_of_heap h05 0
  have g1 : (w7.setCell ⟨b2, 2, none⟩ (.bool β)).frozen? ⟨b0, 1, none⟩ = false := Lib.frozen_of_heap h05 1
  have g2 : (w7.setCell ⟨b2, 2, none⟩ (.bool β)).frozen? ⟨b0, 2, none⟩ = false := Lib.frozen_of_heap h05 2
  clear h25 h05
  go_upto_region 8 with fail
  generalize hws : w7.setCell ⟨b2, 2, none⟩ (.bool β) = ws at HF d0 d1 d2 e0 e1 e2 g0 g1 g2 ⊢
  go_wp2
  refine bodyPost_ret (results_cell_row rfl _ _ b0 142 #[.map none, .map none, .bool β] (0, 0) _ rfl HF.out.1 Tryz.underlying142 rfl (by kernel_rfl)) rfl HF.out.2

theorem KnTo.kt {w w3 w4 : World} {kk : Nat} {c : Value} {s : Bool} {p : BP} {X : Nat → Prop} {ss : List Ws} {rl : List Nat} {F : Nat → Nat → Bool} {sv rv : Value} {R : Nat} {f : Value → Option Value} {r k : Rx} {e : Ending} (ha : KA w p X ss rl F sv rv R f) (hx : KBx w w3 kk c s) (hcr : r.core = some k) (h : KnTo w3 p X ss rl R k (fun x y => F x y || k.fol ss.length x y) false e w4) :
  ∃ fo lo : Nat, e = .returned (.agg #[.map (some fo), .map (some lo), .bool false]) ∧ w4.heap[w.heap.size + 2]? = some (.cells #[.map none, .map none, .bool false] 142 (0, 0)) ∧ KT w (((w4.setCell ⟨w.heap.size + 2, 0, none⟩ (.map (some fo))).setCell ⟨w.heap.size + 2, 1, none⟩ (.map (some lo))).setCell ⟨w.heap.size + 2, 2, none⟩ (.bool false)) p X ss rl R r (fun x y => F x y || k.fol ss.length x y) (some fo) (some lo) w.heap.size (w.heap.size + 2) ∧ (((w4.setCell ⟨w.heap.size + 2, 0, none⟩ (.map (some fo))).setCell ⟨w.heap.size + 2, 1, none⟩ (.map (some lo))).setCell ⟨w.heap.size + 2, 2, none⟩ (.bool false)).heap[w.heap.size + 1]? = some (.cells #[.int .i64 kk, c, .bool s] 85 (0, 0)) := by
 have hco := r.core_of k hcr
 obtain ⟨X', fo, lo, sv', rv', rfl, hb, pf, pl, nf, nl, hq, dj, kb, hxx⟩ := h
 have hkc : k.core ≠ none := fun e => by
  have h1 := k.core_none.1 e
  have h2 := r.core_none.2 (by rw [← hco.cnt]; exact h1)
  rw [hcr] at h2; cases h2
 cases fo with
 | none => exact absurd (nf.1 rfl) hkc
 | some fo =>
 cases lo with
 | none => exact absurd (nl.1 rfl) hkc
 | some lo =>
 have hsz3 := hx.bl.size
 have nX : ∀ i, w.heap.size ≤ i → ¬ X i := fun i hi h => by have := ha.bd.xl i h; omega
 have hb2 := (kb.block _ (lt_of_heap hx.b2) (nX _ (by omega))).trans hx.b2
 have hb0 := (kb.block _ (lt_of_heap hx.b0) (nX _ (by omega))).trans hx.b0
 have hb1 := (kb.block _ (lt_of_heap hx.b1) (nX _ (by omega))).trans hx.b1
 obtain ⟨g1, g2⟩ := set3 hb2 (.map (some fo)) (.map (some lo)) (.bool false)
 have hc : ∀ i, i = w.heap.size + 2 → ∃ cs t fz, w4.heap[i]? = some (.cells cs t fz) := by
  rintro i rfl
  exact ⟨_, _, _, hb2⟩
 refine ⟨fo, lo, rfl, hb2, ⟨⟨X', sv', rv', ?_, fun q h => ⟨by have := (hq q h).1; omega, (hq q h).2⟩, fun i hi h => hxx i (by omega) h⟩, (g2.block _ (lt_of_heap hb0) (by omega)).trans hb0, g1, ?_, ?_, by simp [hcr], by simp [hcr], dj, ?_, Nat.le_refl _, by omega, by omega⟩, (g2.block _ (lt_of_heap hb1) (by omega)).trans hb1⟩
 ·have := hb.other g2 hb2 (by decide)
  rw [hco.sts, hco.cnt] at this
  exact this
 ·have := pf.keepc g2 hc
  rw [hco.fst] at this
  exact this
 ·have := pl.keepc g2 hc
  rw [hco.lst] at this
  exact this
 ·exact ((Kb.of_below X hx.bl).trans kb (fun i _ h => h)).trans g2 (fun i hi h => by omega)
theorem fol_no {r k : Rx} (hco : CoreOf r k) (h : r.gst = false) (F : Nat → Nat → Bool) (n : Nat) : (fun x y => F x y || k.fol n x y) = (fun x y => F x y || r.fol n x y) := by
 funext x y; rw [hco.fol, h, Bool.false_and, Bool.or_false]
theorem fol_yes {r k : Rx} (hco : CoreOf r k) (h : r.gst = true) (F : Nat → Nat → Bool) (n : Nat) : addF (fun x y => F x y || k.fol n x y) (r.lst n) (r.fst n) = (fun x y => F x y || r.fol n x y) := by
 funext x y; unfold addF; rw [hco.fol, h, Bool.true_and, Bool.or_assoc]

set_option maxRecDepth 100000 in
set_option maxHeartbeats 4000000 in
theorem know_some (w : World) (p : BP) (X : Nat → Prop) (ss : List Ws) (rl : List Nat) (F : Nat → Nat → Bool) (sv rv : Value) (R : Nat) (f : Value → Option Value) (r : Rx) (b : Nat) (h : KA w p X ss rl F sv rv R f) (hn : NdAt w r b) (hf : (f (ptr b)).isSome = true) (k : Rx) (hc : r.core = some k) (n : Nat) (hkn : k.size ≤ n) (hco : CoreOk n) (hcnt : ss.length + r.cnt ≤ p.cnt) :
  Calls Tryz.prog 82 #[ptr p.bb, ptr b] w (KnTo w p X ss rl R r (fun x y => F x y || r.fol ss.length x y) r.nul) := by
 obtain ⟨v, hv⟩ := Option.isSome_iff_exists.1 hf
 obtain ⟨⟨cv, hvv, hcv⟩, _⟩ := h.kh.go.at hn hv
 have hcv' : ∃ bk, cv = ptr bk ∧ NdAt w k bk ∧ (f (ptr bk)).isSome = true := by
  rcases hcv with ⟨e, _⟩ | ⟨k', bk, e, e2, e3, e4⟩
  ·rw [hc] at e; cases e
  ·rw [hc] at e
   cases e
   exact ⟨bk, e2, e3, e4⟩
 obtain ⟨bk, rfl, hkb, hkf⟩ := hcv'
 obtain ⟨m, hm⟩ := h.kh.map
 have hwk : Below w.heap.size w (w.alloc (.cells #[.map none, .map none, .bool false] 142)) := (Below.refl _ w).alloc (Nat.le_refl _) _
 obtain ⟨m', hm'⟩ := (h.kh.below hwk).map
 have HMP := zh hm'
 have HKD := zh ((hn.keep (KN.of_below hwk)).key)
 have HKI := zh (keyIn_nd' (w.alloc (.cells #[.map none, .map none, .bool false] 142)))
 obtain ⟨kc, hkc⟩ : ∃ kc, kc = min r.cnt 2001 := ⟨_, rfl⟩
 rw [← hkc] at hvv
 have HGS := zh (rfl : r.gst = r.gst)
 obtain ⟨gs, hgs⟩ : ∃ gs, gs = r.gst := ⟨_, rfl⟩
 rw [← hgs] at hvv
 have HLK := zh (show (if false = true then Value.tuple #[(f (ptr b)).getD zG, .bool (f (ptr b)).isSome] else (f (ptr b)).getD zG) = .agg #[.int .i64 kc, Value.pointer (some ⟨bk, 0, none⟩), .bool gs] by rw [if_neg (by decide), hv, Option.getD_some, hvv])
 have hb3 := KBx.made w kc (Value.pointer (some ⟨bk, 0, none⟩)) gs
 have c1 : (w.alloc (.cells #[.map none, .map none, .bool false] 142)).cell? ⟨p.bb, 1, none⟩ = some (.map (some p.gb)) := by rw [Lib.cell_of_heap (h.bd.below hwk).bld]; rfl
 have HX := zh h; have HN := zh hn; have HC := zh (And.intro hc (And.intro hkn (And.intro hco (And.intro hcnt (And.intro hkb hkf)))))
 have HSG := zh hgs
 obtain ⟨β, hnl⟩ : ∃ β, β = r.nul := ⟨_, rfl⟩
 have HNL := zh hnl
 rw [← hnl]
 obtain ⟨Fr, hFr⟩ : ∃ Fr, Fr = (fun x y => F x y || r.fol ss.length x y) := ⟨_, rfl⟩
 rw [← hFr]
 have HFR := zh hFr
 obtain ⟨b0, hb0⟩ : ∃ b0, b0 = w.heap.size := ⟨_, rfl⟩
 obtain ⟨b1, hb1⟩ : ∃ b1, b1 = w.heap.size + 1 := ⟨_, rfl⟩
 obtain ⟨b2, hb2⟩ : ∃ b2, b2 = w.heap.size + 2 := ⟨_, rfl⟩
 have HB0 := zh hb0; have HB1 := zh hb1; have HB2 := zh hb2
 clear hFr hm hm' hwk hgs hkc hv hvv hf hnl HGS h hn hc hcv hkn hco hcnt hkb hkf
 go_enter Tryz.func82, Tryz.ntmps82
 go_upto_region 3 with (at_lookup; refine wpList_mp_look _ rfl _ _ 80 false rfl HKI.out Tryz.underlying80 (Tryz.zeroValue85 _) rfl HMP.out (ptr b) rfl HKD.out (.agg #[.int .i64 kc, Value.pointer (some ⟨bk, 0, none⟩), .bool gs]) HLK.out ?_)
 rw [show w.heap.size + 1 + 1 = b2 from hb2.symm, show w.heap.size + 1 = b1 from hb1.symm, show w.heap.size = b0 from hb0.symm]
 clear HMP HKD HKI HLK c1 hb0 hb1 hb2
 generalize (((w.alloc (.cells #[.map none, .map none, .bool false] 142)).alloc (.cells #[.int .i64 kc, Value.pointer (some ⟨bk, 0, none⟩), .bool gs] 85)).alloc (.cells #[.map none, .map none, .bool false] 142)) = w3 at hb3 ⊢
 have HB3 := zh hb3
 have c11 : w3.cell? ⟨b1, 1, none⟩ = some (Value.pointer (some ⟨bk, 0, none⟩)) := by rw [HB1.out, Lib.cell_of_heap hb3.b1]; rfl
 have c12 : w3.cell? ⟨b1, 2, none⟩ = some (.bool gs) := by rw [HB1.out, Lib.cell_of_heap hb3.b1]; rfl
 clear hb3
 have HCA : Hid (Calls Tryz.prog 121 #[ptr p.bb, ptr bk] w3 fun e w4 => ∃ fo lo : Nat, e = .returned (.agg #[.map (some fo), .map (some lo), .bool false]) ∧ w4.heap[b2]? = some (.cells #[.map none, .map none, .bool false] 142 (0, 0)) ∧ KT w (((w4.setCell ⟨b2, 0, none⟩ (.map (some fo))).setCell ⟨b2, 1, none⟩ (.map (some lo))).setCell ⟨b2, 2, none⟩ (.bool false)) p X ss rl R r (fun x y => F x y || k.fol ss.length x y) (some fo) (some lo) b0 b2 ∧ (((w4.setCell ⟨b2, 0, none⟩ (.map (some fo))).setCell ⟨b2, 1, none⟩ (.map (some lo))).setCell ⟨b2, 2, none⟩ (.bool false)).heap[b1]? = some (.cells #[.int .i64 kc, .pointer (some ⟨bk, 0, none⟩), .bool gs] 85 (0, 0))) := zh (by
  obtain ⟨hc, hkn, hco, hcnt, hkb, hkf⟩ := HC.out
  rw [HB0.out, HB1.out, HB2.out]
  refine (hco w3 p X ss rl F sv rv R f k r bk hkn hc (HX.out.below HB3.out.bl) (hkb.keep (KN.of_below HB3.out.bl)) hkf (by rw [(r.core_of k hc).cnt]; exact hcnt)).mono ?_
  intro e w4 h
  exact h.kt HX.out HB3.out hc)
 go_upto_region 5 with fail
 refine HCA.out.mono ?_
 rintro e w4 ⟨fo, lo, rfl, hb24, hkt, hb14⟩
 have d20 : w4.cell? ⟨b2, 0, none⟩ = some (.map none) := by rw [Lib.cell_of_heap hb24]; rfl
 have d21 : w4.cell? ⟨b2, 1, none⟩ = some (.map none) := by rw [Lib.cell_of_heap hb24]; rfl
 have d22 : w4.cell? ⟨b2, 2, none⟩ = some (.bool false) := by rw [Lib.cell_of_heap hb24]; rfl
 have g20 : w4.frozen? ⟨b2, 0, none⟩ = false := Lib.frozen_of_heap hb24 0
 have g21 : w4.frozen? ⟨b2, 1, none⟩ = false := Lib.frozen_of_heap hb24 1
 have g22 : w4.frozen? ⟨b2, 2, none⟩ = false := Lib.frozen_of_heap hb24 2
 have HT := zh hkt
 have HB14 := zh hb14
 clear hkt hb24 c11 c12 hb14 HCA
 go_upto_region 5 with fail
 clear d20 d21 d22 g20 g21 g22
 generalize (((w4.setCell ⟨b2, 0, none⟩ (.map (some fo))).setCell ⟨b2, 1, none⟩ (.map (some lo))).setCell ⟨b2, 2, none⟩ (.bool false)) = w5 at HT HB14 ⊢
 have c12 : w5.cell? ⟨b1, 2, none⟩ = some (.bool gs) := by rw [Lib.cell_of_heap HB14.out]; rfl
 have d20 : w5.cell? ⟨b2, 0, none⟩ = some (.map (some fo)) := by rw [Lib.cell_of_heap HT.out.h2]; rfl
 have d21 : w5.cell? ⟨b2, 1, none⟩ = some (.map (some lo)) := by rw [Lib.cell_of_heap HT.out.h2]; rfl
 cases gs with
 | false =>
  rw [fol_no (r.core_of k HC.out.1) HSG.out.symm, ← HFR.out] at HT
  go_upto_region 7 with fail
  have HNA := zh (nullable_any w5 r b (HT.out.nd HX.out.bd HN.out))
  rw [← HNL.out] at HNA
  have t0 : w5.cell? ⟨b0, 0, none⟩ = some (.map none) := by rw [Lib.cell_of_heap HT.out.h0]; rfl
  have t22 : w5.cell? ⟨b2, 2, none⟩ = some (.bool false) := by rw [Lib.cell_of_heap HT.out.h2]; rfl
  have f22 : w5.frozen? ⟨b2, 2, none⟩ = false := Lib.frozen_of_heap HT.out.h2 2
  go_wp2_with fail
  refine HNA.out.mono ?_
  rintro e w7 ⟨rfl, rfl⟩
  have HF := zh (HT.out.fin β)
  have h25 : (w7.setCell ⟨b2, 2, none⟩ (.bool β)).heap[b2]? = some (.cells #[.map (some fo), .map (some lo), .bool β] 142 (0, 0)) := by rw [set_heap w7 b2 2 _ _ _ _ HT.out.h2]; rfl
  have h05 : (w7.setCell ⟨b2, 2, none⟩ (.bool β)).heap[b0]? = some (.cells #[.map none, .map none, .bool false] 142 (0, 0)) := ((Kb.setCell w7 ⟨b2, 2, none⟩ (.bool β)).block b0 (lt_of_heap HT.out.h0) HT.out.ne).trans HT.out.h0
  have d0 : (w7.setCell ⟨b2, 2, none⟩ (.bool β)).cell? ⟨b2, 0, none⟩ = some (.map (some fo)) := by rw [Lib.cell_of_heap h25]; rfl
  have d1 : (w7.setCell ⟨b2, 2, none⟩ (.bool β)).cell? ⟨b2, 1, none⟩ = some (.map (some lo)) := by rw [Lib.cell_of_heap h25]; rfl
  have d2 : (w7.setCell ⟨b2, 2, none⟩ (.bool β)).cell? ⟨b2, 2, none⟩ = some (.bool β) := by rw [Lib.cell_of_heap h25]; rfl
  have e0 : (w7.setCell ⟨b2, 2, none⟩ (.bool β)).cell? ⟨b0, 0, none⟩ = some (.map none) := by rw [Lib.cell_of_heap h05]; rfl
  have e1 : (w7.setCell ⟨b2, 2, none⟩ (.bool β)).cell? ⟨b0, 1, none⟩ = some (.map none) := by rw [Lib.cell_of_heap h05]; rfl
  have e2 : (w7.setCell ⟨b2, 2, none⟩ (.bool β)).cell? ⟨b0, 2, none⟩ = some (.bool false) := by rw [Lib.cell_of_heap h05]; rfl
  have g0 : (w7.setCell ⟨b2, 2, none⟩ (.bool β)).frozen? ⟨b0, 0, none⟩ = false := Lib.frozen_of_heap h05 0
  have g1 : (w7.setCell ⟨b2, 2, none⟩ (.bool β)).frozen? ⟨b0, 1, none⟩ = false := Lib.frozen_of_heap h05 1
  have g2 : (w7.setCell ⟨b2, 2, none⟩ (.bool β)).frozen? ⟨b0, 2, none⟩ = false := Lib.frozen_of_heap h05 2
  clear h25 h05
  go_upto_region 8 with fail
  generalize hws : w7.setCell ⟨b2, 2, none⟩ (.bool β) = ws at HF d0 d1 d2 e0 e1 e2 g0 g1 g2 ⊢
  go_wp2
  refine bodyPost_ret (results_cell_row rfl _ _ b0 142 #[.map (some fo), .map (some lo), .bool β] (0, 0) _ rfl HF.out.1 Tryz.underlying142 rfl (by kernel_rfl)) rfl HF.out.2
 | true =>
  have HBC : Hid (Calls Tryz.prog 122 #[ptr p.bb, .map (some lo), .map (some fo)] w5 fun e w' => e = .returned (.tuple #[]) ∧ KT w w' p X ss rl R r Fr (some fo) (some lo) b0 b2) := zh (by
   have h1 := HT.out
   have hcnt := HC.out.2.2.2.1
   obtain ⟨X', sv', rv', hb, hq, hx⟩ := h1.ex
   refine (behind_some w5 p X' _ _ _ sv' rv' lo fo _ _ hb (by have := HX.out.cnt; omega) h1.pl h1.pf (fun q hq => by have := (r.lst_up ss.length).2 q hq; omega) (fun q hq => by have := (r.fst_up ss.length).2 q hq; omega)).mono ?_
   rintro e w' ⟨rfl, q1, q2⟩
   rw [fol_yes (r.core_of k HC.out.1) HSG.out.symm, ← HFR.out] at q1
   exact ⟨rfl, h1.kb1 hb hq hx q2 q1⟩)
  go_upto_region 7 with fail
  refine HBC.out.mono ?_
  rintro e w6 ⟨rfl, ht6⟩
  have HT6 := zh ht6
  clear ht6 HT d20 d21 c12
  go_upto_region 7 with fail
  have HT := HT6
  clear HT6
  have HNA := zh (nullable_any w6 r b (HT.out.nd HX.out.bd HN.out))
  rw [← HNL.out] at HNA
  have t0 : w6.cell? ⟨b0, 0, none⟩ = some (.map none) := by rw [Lib.cell_of_heap HT.out.h0]; rfl
  have t22 : w6.cell? ⟨b2, 2, none⟩ = some (.bool false) := by rw [Lib.cell_of_heap HT.out.h2]; rfl
  have f22 : w6.frozen? ⟨b2, 2, none⟩ = false := Lib.frozen_of_heap HT.out.h2 2
  go_wp2_with fail
  refine HNA.out.mono ?_
  rintro e w7 ⟨rfl, rfl⟩
  have HF := zh (HT.out.fin β)
  have h25 : (w7.setCell ⟨b2, 2, none⟩ (.bool β)).heap[b2]? = some (.cells #[.map (some fo), .map (some lo), .bool β] 142 (0, 0)) := by rw [set_heap w7 b2 2 _ _ _ _ HT.out.h2]; rfl
  have h05 : (w7.setCell ⟨b2, 2, none⟩ (.bool β)).heap[b0]? = some (.cells #[.map none, .map none, .bool false] 142 (0, 0)) := ((Kb.setCell w7 ⟨b2, 2, none⟩ (.bool β)).block b0 (lt_of_heap HT.out.h0) HT.out.ne).trans HT.out.h0
  have d0 : (w7.setCell ⟨b2, 2, none⟩ (.bool β)).cell? ⟨b2, 0, none⟩ = some (.map (some fo)) := by rw [Lib.cell_of_heap h25]; rfl
  have d1 : (w7.setCell ⟨b2, 2, none⟩ (.bool β)).cell? ⟨b2, 1, none⟩ = some (.map (some lo)) := by rw [Lib.cell_of_heap h25]; rfl
  have d2 : (w7.setCell ⟨b2, 2, none⟩ (.bool β)).cell? ⟨b2, 2, none⟩ = some (.bool β) := by rw [Lib.cell_of_heap h25]; rfl
  have e0 : (w7.setCell ⟨b2, 2, none⟩ (.bool β)).cell? ⟨b0, 0, none⟩ = some (.map none) := by rw [Lib.cell_of_heap h05]; rfl
  have e1 : (w7.setCell ⟨b2, 2, none⟩ (.bool β)).cell? ⟨b0, 1, none⟩ = some (.map none) := by rw [Lib.cell_of_heap h05]; rfl
  have e2 : (w7.setCell ⟨b2, 2, none⟩ (.bool β)).cell? ⟨b0, 2, none⟩ = some (.bool false) := by rw [Lib.cell_of_heap h05]; rfl
  have g0 : (w7.setCell ⟨b2, 2, none⟩ (.bool β)).frozen? ⟨b0, 0, none⟩ = false := Lib.frozen_of_heap h05 0
  have g1 : (w7.setCell ⟨b2, 2, none⟩ (.bool β)).frozen? ⟨b0, 1, none⟩ = false := Lib.frozen_of_heap h05 1
  have g2 : (w7.setCell ⟨b2, 2, none⟩ (.bool β)).frozen? ⟨b0, 2, none⟩ = false := Lib.frozen_of_heap h05 2
  clear h25 h05
  go_upto_region 8 with fail
  generalize hws : w7.setCell ⟨b2, 2, none⟩ (.bool β) = ws at HF d0 d1 d2 e0 e1 e2 g0 g1 g2 ⊢
  go_wp2
  refine bodyPost_ret (results_cell_row rfl _ _ b0 142 #[.map (some fo), .map (some lo), .bool β] (0, 0) _ rfl HF.out.1 Tryz.underlying142 rfl (by kernel_rfl)) rfl HF.out.2
end Go.Proofs.YtejdfpieblkapaaGreatDoor

/- knowCore: what it needs. -/
namespace Go.Proofs.YtejdfpieblkapaaGreatDoor
open Go.RowKit Go.Shelf

theorem Rx.core_shape : ∀ (r k : Rx), r.core = some k → (∃ s, k = .set s) ∨ ∃ a b, (k = .cat a b ∨ k = .or a b) ∧ a.core ≠ none ∧ b.core ≠ none
 | .set s, k, h => .inl ⟨s, by simpa [Rx.core] using h.symm⟩
 | .empty, k, h => by simp [Rx.core] at h
 | .star a, k, h => a.core_shape k (by simpa [Rx.core] using h)
 | .cat a b, k, h => by
  simp only [Rx.core] at h
  cases ha : a.core with
  | none => rw [ha] at h; exact b.core_shape k h
  | some ka =>
   rw [ha] at h
   cases hb : b.core with
   | none => rw [hb] at h; exact a.core_shape k (by rw [ha]; exact h)
   | some kb =>
    rw [hb] at h
    simp only [Option.some.injEq] at h
    exact .inr ⟨a, b, .inl h.symm, by rw [ha]; simp, by rw [hb]; simp⟩
 | .or a b, k, h => by
  simp only [Rx.core] at h
  cases ha : a.core with
  | none => rw [ha] at h; exact b.core_shape k h
  | some ka =>
   rw [ha] at h
   cases hb : b.core with
   | none => rw [hb] at h; exact a.core_shape k (by rw [ha]; exact h)
   | some kb =>
    rw [hb] at h
    simp only [Option.some.injEq] at h
    exact .inr ⟨a, b, .inr h.symm, by rw [ha]; simp, by rw [hb]; simp⟩
theorem Up.len : ∀ {n m : Nat} {l : List Nat}, Up n m l → l.length ≤ m - n
 | n, m, [], _ => Nat.zero_le _
 | n, m, a :: l, ⟨h1, h2⟩ => by
  have ha := h2 a (by simp)
  rw [List.pairwise_cons] at h1
  have := Up.len (n := a + 1) (m := m) (l := l) ⟨h1.2, fun p hp => by have := h1.1 p hp; have := h2 p (by simp [hp]); omega⟩
  simp only [List.length_cons]
  omega
theorem KnTo.store {w w0 w4 : World} {p : BP} {X : Nat → Prop} {ss : List Ws} {rl : List Nat} {F : Nat → Nat → Bool} {sv rv : Value} {R : Nat} {r : Rx} {F' : Nat → Nat → Bool} {β : Bool} {e : Ending} {b0 : Nat} (ha : Bd w p X ss rl F sv rv) (hb : Below w.heap.size w w0) (hb0 : w.heap.size ≤ b0) (h0 : w0.heap[b0]? = some (.cells #[.map none, .map none, .bool false] 142 (0, 0))) (h : KnTo w0 p X ss rl R r F' β e w4) :
  ∃ fo lo : Option Nat, e = .returned (.agg #[.map fo, .map lo, .bool β]) ∧ w4.heap[b0]? = some (.cells #[.map none, .map none, .bool false] 142 (0, 0)) ∧ (((w4.setCell ⟨b0, 0, none⟩ (.map fo)).setCell ⟨b0, 1, none⟩ (.map lo)).setCell ⟨b0, 2, none⟩ (.bool β)).heap[b0]? = some (.cells #[.map fo, .map lo, .bool β] 142 (0, 0)) ∧
  KnTo w p X ss rl R r F' β (.returned (.agg #[.map fo, .map lo, .bool β])) (((w4.setCell ⟨b0, 0, none⟩ (.map fo)).setCell ⟨b0, 1, none⟩ (.map lo)).setCell ⟨b0, 2, none⟩ (.bool β)) := by
 obtain ⟨X', fo, lo, sv', rv', rfl, hbd, pf, pl, nf, nl, hq, dj, kb, hxx⟩ := h
 have hsz := hb.size
 have h04 := (kb.block _ (lt_of_heap h0) (fun h => by have := ha.xl _ h; omega)).trans h0
 obtain ⟨g1, g2⟩ := set3 h04 (.map fo) (.map lo) (.bool β)
 have hc : ∀ i, i = b0 → ∃ cs t fz, w4.heap[i]? = some (.cells cs t fz) := by
  rintro i rfl
  exact ⟨_, _, _, h04⟩
 exact ⟨fo, lo, rfl, h04, g1, X', fo, lo, sv', rv', rfl, hbd.other g2 h04 (by decide), pf.keepc g2 hc, pl.keepc g2 hc, nf, nl, fun q h => ⟨by have := (hq q h).1; omega, (hq q h).2⟩, dj, ((Kb.of_below X hb).trans kb (fun i _ h => h)).trans g2 (fun i hi h => by omega), fun i hi h => hxx i (by omega) h⟩

set_option maxRecDepth 100000 in
set_option maxHeartbeats 4000000 in
theorem core_set (w : World) (p : BP) (X : Nat → Prop) (ss : List Ws) (rl : List Nat) (F : Nat → Nat → Bool) (sv rv : Value) (R : Nat) (f : Value → Option Value) (s : Ws) (b : Nat) (h : KA w p X ss rl F sv rv R f) (hn : NdAt w (.set s) b) (hcnt : ss.length + (Rx.set s).cnt ≤ p.cnt) :
  Calls Tryz.prog 121 #[ptr p.bb, ptr b] w (KnTo w p X ss rl R (.set s) (fun x y => F x y || (Rx.set s).fol ss.length x y) false) := by
 have hF : (fun x y => F x y || (Rx.set s).fol ss.length x y) = F := by funext x y; simp [Rx.fol]
 rw [hF]
 have hb := (Below.refl _ w).alloc (Nat.le_refl _) (.cells #[.map none, .map none, .bool false] 142)
 have HK := Lib.hid (kind_any (w.alloc (.cells #[.map none, .map none, .bool false] 142)) (.set s) b (hn.keep (KN.of_below hb)))
 have HC : Hid (Calls Tryz.prog 146 #[ptr p.bb, ptr b] (w.alloc (.cells #[.map none, .map none, .bool false] 142)) fun e w4 => ∃ fo lo : Option Nat, e = .returned (.agg #[.map fo, .map lo, .bool false]) ∧ w4.heap[w.heap.size]? = some (.cells #[.map none, .map none, .bool false] 142 (0, 0)) ∧ (((w4.setCell ⟨w.heap.size, 0, none⟩ (.map fo)).setCell ⟨w.heap.size, 1, none⟩ (.map lo)).setCell ⟨w.heap.size, 2, none⟩ (.bool false)).heap[w.heap.size]? = some (.cells #[.map fo, .map lo, .bool false] 142 (0, 0)) ∧
  KnTo w p X ss rl R (.set s) F false (.returned (.agg #[.map fo, .map lo, .bool false])) (((w4.setCell ⟨w.heap.size, 0, none⟩ (.map fo)).setCell ⟨w.heap.size, 1, none⟩ (.map lo)).setCell ⟨w.heap.size, 2, none⟩ (.bool false))) := Lib.hid (by
  obtain ⟨Ae, ce, he⟩ := h.ev
  have hB := h.below hb
  simp only [Rx.cnt] at hcnt
  have h1 := h.cnt
  have h2 := h.lens
  refine (newPos_any _ p X ss rl F sv rv s b R ce Ae hB.bd hB.kh.isMap (hn.keep (KN.of_below hb)) (fun i cs t fz hX hi => ?_) he (by omega) (by omega)).mono ?_
  ·obtain ⟨cs', t', h3, h4⟩ := hB.bd.xt i hX
   rw [hi] at h3
   injection h3 with h3
   injection h3 with _ h3 _
   rw [← h3] at h4
   revert h4; unfold XT; rintro (h4 | h4 | h4 | h4) <;> rw [h4] <;> decide
  ·intro e w4 hk
   exact hk.store h.bd hb (Nat.le_refl _) (heap_alloc_new w _))
 clear hb hn h hcnt hF
 go_enter Tryz.func121, Tryz.ntmps121
 go_upto_region 1 with fail
 go_wp2_with fail
 refine HK.out.mono ?_
 rintro e w1 ⟨rfl, rfl⟩
 go_wp2_with fail
 refine HC.out.mono ?_
 rintro e w4 ⟨fo, lo, rfl, h04, hh, hk⟩
 have e0 : w4.cell? ⟨w.heap.size, 0, none⟩ = some (.map none) := by rw [Lib.cell_of_heap h04]; rfl
 have e1 : w4.cell? ⟨w.heap.size, 1, none⟩ = some (.map none) := by rw [Lib.cell_of_heap h04]; rfl
 have e2 : w4.cell? ⟨w.heap.size, 2, none⟩ = some (.bool false) := by rw [Lib.cell_of_heap h04]; rfl
 have g0 : w4.frozen? ⟨w.heap.size, 0, none⟩ = false := Lib.frozen_of_heap h04 0
 have g1 : w4.frozen? ⟨w.heap.size, 1, none⟩ = false := Lib.frozen_of_heap h04 1
 have g2 : w4.frozen? ⟨w.heap.size, 2, none⟩ = false := Lib.frozen_of_heap h04 2
 have HH := Lib.hid hh
 have HKK := Lib.hid hk
 clear h04 hh hk
 go_wp2_with fail
 refine bodyPost_ret (results_cell_row rfl _ _ w.heap.size 142 #[.map fo, .map lo, .bool false] (0, 0) _ rfl HH.out Tryz.underlying142 rfl (by kernel_rfl)) rfl HKK.out

structure CB (w w4 : World) (p : BP) (X : Nat → Prop) (ss : List Ws) (rl : List Nat) (R : Nat) (x y : Rx) (F' : Nat → Nat → Bool) (fo lo fo' lo' : Nat) (b4 b6 b7 : Nat) : Prop where
 ex : ∃ (X' : Nat → Prop) (sv' rv' : Value), Bd w4 p X' (ss ++ x.sts ++ y.sts) (rl ++ List.replicate x.cnt R ++ List.replicate y.cnt R) F' sv' rv' ∧ (∀ q, (q = fo ∨ q = lo ∨ q = fo' ∨ q = lo') → w.heap.size ≤ q ∧ ¬ X' q) ∧ (∀ i, i < w.heap.size → X' i → X i)
 h4 : w4.heap[b4]? = some (.cells #[.map none, .map none, .bool false] 142 (0, 0))
 h6 : w4.heap[b6]? = some (.cells #[.map (some fo), .map (some lo), .bool x.nul] 142 (0, 0))
 h7 : w4.heap[b7]? = some (.cells #[.map (some fo'), .map (some lo'), .bool y.nul] 142 (0, 0))
 nd : [fo, lo, fo', lo'].Nodup
 kb : Kb X w w4
 o4 : w.heap.size ≤ b4
 ne : b4 ≠ b6 ∧ b4 ≠ b7 ∧ b6 ≠ b7
theorem CB.turn {w w4 w5 : World} {p : BP} {X : Nat → Prop} {ss : List Ws} {rl : List Nat} {R : Nat} {x y : Rx} {F' F2 : Nat → Nat → Bool} {fo lo fo' lo' : Nat} {b4 b6 b7 : Nat} (h : CB w w4 p X ss rl R x y F' fo lo fo' lo' b4 b6 b7) {ex : Nat → Prop} (k : Kb ex w4 w5) (he : ∀ i, ex i → ¬ (i = b4 ∨ i = b6 ∨ i = b7) ∧ (i < w.heap.size → X i))
  (hb : ∃ (X' : Nat → Prop) (sv' rv' : Value), Bd w5 p X' (ss ++ x.sts ++ y.sts) (rl ++ List.replicate x.cnt R ++ List.replicate y.cnt R) F2 sv' rv' ∧ (∀ q, (q = fo ∨ q = lo ∨ q = fo' ∨ q = lo') → w.heap.size ≤ q ∧ ¬ X' q) ∧ (∀ i, i < w.heap.size → X' i → X i)) : CB w w5 p X ss rl R x y F2 fo lo fo' lo' b4 b6 b7 := by
 obtain ⟨_, h4, h6, h7, nd, kb, o4, ne⟩ := h
 have st : ∀ (b : Nat) (cs : Array Value), (b = b4 ∨ b = b6 ∨ b = b7) → w4.heap[b]? = some (.cells cs 142 (0, 0)) → w5.heap[b]? = some (.cells cs 142 (0, 0)) := fun b cs hb h => (k.block b (lt_of_heap h) (fun e => (he b e).1 hb)).trans h
 exact ⟨hb, st _ _ (.inl rfl) h4, st _ _ (.inr (.inl rfl)) h6, st _ _ (.inr (.inr rfl)) h7, nd, kb.trans k (fun i hi h => (he i h).2 hi), o4, ne⟩
theorem CB.boxes {w w4 : World} {p : BP} {X X' : Nat → Prop} {ss ss' : List Ws} {rl rl' : List Nat} {R : Nat} {x y : Rx} {F' F2 : Nat → Nat → Bool} {fo lo fo' lo' : Nat} {b4 b6 b7 : Nat} {sv rv : Value} (h : CB w w4 p X ss rl R x y F' fo lo fo' lo' b4 b6 b7) (hb : Bd w4 p X' ss' rl' F2 sv rv) : ∀ i, X' i → ¬ (i = b4 ∨ i = b6 ∨ i = b7) := fun i hi e => by
 have nx : ∀ (b : Nat) (cs : Array Value), w4.heap[b]? = some (.cells cs 142 (0, 0)) → ¬ X' b := fun b cs h1 hX => by
  obtain ⟨cs', t, h3, h4⟩ := hb.xt b hX
  rw [h1] at h3
  injection h3 with h3
  injection h3 with _ h3 _
  rw [← h3] at h4
  revert h4; unfold XT; decide
 rcases e with e | e | e <;> rw [e] at hi
 ·exact nx _ _ h.h4 hi
 ·exact nx _ _ h.h6 hi
 ·exact nx _ _ h.h7 hi
theorem CB.below {w w4 w5 : World} {p : BP} {X : Nat → Prop} {ss : List Ws} {rl : List Nat} {R : Nat} {x y : Rx} {F' : Nat → Nat → Bool} {fo lo fo' lo' : Nat} {b4 b6 b7 : Nat} (h : CB w w4 p X ss rl R x y F' fo lo fo' lo' b4 b6 b7) (k : Below w4.heap.size w4 w5) : CB w w5 p X ss rl R x y F' fo lo fo' lo' b4 b6 b7 :=
 h.turn (ex := fun _ => False) (Kb.of_below _ k) (fun _ h => h.elim) (by obtain ⟨X', sv', rv', h1, h2, h3⟩ := h.ex; exact ⟨X', sv', rv', h1.below k, h2, h3⟩)
theorem CB.walk {w w4 w5 : World} {p : BP} {X : Nat → Prop} {ss : List Ws} {rl : List Nat} {R : Nat} {x y : Rx} {F' : Nat → Nat → Bool} {fo lo fo' lo' : Nat} {b4 b6 b7 : Nat} (h : CB w w4 p X ss rl R x y F' fo lo fo' lo' b4 b6 b7) {ex : Nat → Prop} (k : Kb ex w4 w5) (he : ∀ i, ex i → (∃ l, PsAt w4 i l) ∧ w.heap.size ≤ i) : CB w w5 p X ss rl R x y F' fo lo fo' lo' b4 b6 b7 := by
 have nc : ∀ i, ex i → ∀ (cs : Array Value) (t : TypeId) (fz : Nat × Nat), w4.heap[i]? ≠ some (.cells cs t fz) := fun i hi cs t fz hc => by
  obtain ⟨l, hl⟩ := (he i hi).1
  obtain ⟨es, clk, hm⟩ := hl.isMap
  rw [hc] at hm; cases hm
 refine h.turn k (fun i hi => ⟨?_, fun h => absurd (he i hi).2 (by omega)⟩) (by obtain ⟨X', sv', rv', h1, h2, h3⟩ := h.ex; exact ⟨X', sv', rv', h1.walk k nc, h2, h3⟩)
 rintro (e | e | e) <;> rw [e] at hi
 ·exact nc _ hi _ _ _ h.h4
 ·exact nc _ hi _ _ _ h.h6
 ·exact nc _ hi _ _ _ h.h7
theorem CB.box {w w4 w5 : World} {p : BP} {X : Nat → Prop} {ss : List Ws} {rl : List Nat} {R : Nat} {x y : Rx} {F' : Nat → Nat → Bool} {fo lo fo' lo' : Nat} {b4 b6 b7 b8 : Nat} {cs : Array Value} (h : CB w w4 p X ss rl R x y F' fo lo fo' lo' b4 b6 b7) (k : Kb (fun i => i = b8) w4 w5) (hb : w4.heap[b8]? = some (.cells cs 142 (0, 0))) (he : ¬ (b8 = b4 ∨ b8 = b6 ∨ b8 = b7) ∧ w.heap.size ≤ b8) : CB w w5 p X ss rl R x y F' fo lo fo' lo' b4 b6 b7 :=
 h.turn k (fun i hi => by rw [hi]; exact ⟨he.1, fun h => absurd he.2 (by omega)⟩) (by obtain ⟨X', sv', rv', h1, h2, h3⟩ := h.ex; exact ⟨X', sv', rv', h1.other k hb (by decide), h2, h3⟩)
theorem CB.fin {w w4 : World} {p : BP} {X : Nat → Prop} {ss : List Ws} {rl : List Nat} {R : Nat} {x y k : Rx} {F' : Nat → Nat → Bool} {fo lo fo' lo' : Nat} {b4 b6 b7 u v : Nat} (h : CB w w4 p X ss rl R x y F' fo lo fo' lo' b4 b6 b7) (hk : k.core ≠ none) (h1 : k.sts = x.sts ++ y.sts) (h2 : k.cnt = x.cnt + y.cnt) (hu : PsAt w4 u (k.fst ss.length)) (hv : PsAt w4 v (k.lst ss.length)) (huv : (u = fo ∨ u = fo') ∧ (v = lo ∨ v = lo')) :
  (((w4.setCell ⟨b4, 0, none⟩ (.map (some u))).setCell ⟨b4, 1, none⟩ (.map (some v))).setCell ⟨b4, 2, none⟩ (.bool false)).heap[b4]? = some (.cells #[.map (some u), .map (some v), .bool false] 142 (0, 0)) ∧
  KnTo w p X ss rl R k F' false (.returned (.agg #[.map (some u), .map (some v), .bool false])) (((w4.setCell ⟨b4, 0, none⟩ (.map (some u))).setCell ⟨b4, 1, none⟩ (.map (some v))).setCell ⟨b4, 2, none⟩ (.bool false)) := by
 obtain ⟨⟨X', sv', rv', hbd, hq, hx⟩, h4, h6, h7, nd, kb, o4, ne⟩ := h
 obtain ⟨g1, g2⟩ := set3 h4 (.map (some u)) (.map (some v)) (.bool false)
 have hc : ∀ i, i = b4 → ∃ cs t fz, w4.heap[i]? = some (.cells cs t fz) := by
  rintro i rfl
  exact ⟨_, _, _, h4⟩
 refine ⟨g1, X', some u, some v, sv', rv', rfl, ?_, (show PsO w4 (some u) _ from hu).keepc g2 hc, (show PsO w4 (some v) _ from hv).keepc g2 hc, by simp [hk], by simp [hk], ?_, ?_, kb.trans g2 (fun i hi h => by omega), hx⟩
 ·have := hbd.other g2 h4 (by decide)
  rw [h1, h2, ← List.append_assoc, ← List.replicate_append_replicate, ← List.append_assoc]
  exact this
 ·rintro q (e | e)
  ·have e := Option.some.inj e
   exact hq q (by rcases huv.1 with h | h <;> simp [← e, h])
  ·have e := Option.some.inj e
   exact hq q (by rcases huv.2 with h | h <;> simp [← e, h])
 ·intro q e e2
  have e := Option.some.inj e
  have e2 := Option.some.inj e2
  simp only [List.nodup_cons, List.mem_cons, List.not_mem_nil, or_false, not_or] at nd
  rcases huv.1 with h | h <;> rcases huv.2 with h' | h' <;> omega
end Go.Proofs.YtejdfpieblkapaaGreatDoor

/- knowCore: two parts. -/
namespace Go.Proofs.YtejdfpieblkapaaGreatDoor
open Lib renaming hid → zh
open List renaming getElem_toArray → w1z, getElem_cons_zero → w2z, getElem_cons_succ → w3z, setIfInBounds_toArray → w4z, set_cons_zero → w5z, set_cons_succ → w6z
open Go.RowKit Go.Shelf

structure KM (w w' : World) (p : BP) (X X' : Nat → Prop) (ss : List Ws) (rl : List Nat) (R : Nat) (f : Value → Option Value) (r : Rx) (F' : Nat → Nat → Bool) (sv' rv' : Value) (fo lo : Nat) : Prop where
 ka : KA w' p X' (ss ++ r.sts) (rl ++ List.replicate r.cnt R) F' sv' rv' R f
 pf : PsAt w' fo (r.fst ss.length)
 pl : PsAt w' lo (r.lst ss.length)
 fr : ∀ q, (q = fo ∨ q = lo) → w.heap.size ≤ q ∧ ¬ X' q
 dj : fo ≠ lo
 kb : Kb X w w'
 sx : ∀ i, i < w.heap.size → X' i → X i
theorem KM.of {w w' : World} {p : BP} {X : Nat → Prop} {ss : List Ws} {rl : List Nat} {F F' : Nat → Nat → Bool} {sv rv : Value} {R : Nat} {f : Value → Option Value} {r : Rx} {β : Bool} {e : Ending} (ha : KA w p X ss rl F sv rv R f) (hr : r.core ≠ none) (h : KnTo w p X ss rl R r F' β e w') :
  ∃ (X' : Nat → Prop) (sv' rv' : Value) (fo lo : Nat), e = .returned (.agg #[.map (some fo), .map (some lo), .bool β]) ∧ KM w w' p X X' ss rl R f r F' sv' rv' fo lo := by
 obtain ⟨X', fo, lo, sv', rv', rfl, hbd, pf, pl, nf, nl, hq, dj, kb, hxx⟩ := h
 cases fo with
 | none => exact absurd (nf.1 rfl) hr
 | some fo =>
 cases lo with
 | none => exact absurd (nl.1 rfl) hr
 | some lo =>
 refine ⟨X', sv', rv', fo, lo, rfl, ⟨hbd, ha.kh.kb ha.bd kb, ?_, ha.cnt, ha.ev⟩, pf, pl, ?_, ?_, kb, hxx⟩
 ·rw [List.length_append, List.length_append, List.length_replicate, r.sts_len, ha.lens]
 ·rintro q (rfl | rfl)
  ·exact hq q (.inl rfl)
  ·exact hq q (.inr rfl)
 ·intro e
  exact dj fo rfl (by rw [e])
theorem CB.of {w w1 w2 w3 : World} {p : BP} {X X1 X2 : Nat → Prop} {ss : List Ws} {rl : List Nat} {F F1 F2 : Nat → Nat → Bool} {sv rv sv1 rv1 sv2 rv2 : Value} {R : Nat} {f : Value → Option Value} {x y : Rx} {b4 fo lo fo' lo' : Nat} (ha : KA w p X ss rl F sv rv R f) (hb1 : Below w.heap.size w w1) (hb4 : w.heap.size ≤ b4) (h4 : w1.heap[b4]? = some (.cells #[.map none, .map none, .bool false] 142 (0, 0)))
  (k1 : KM w1 w2 p X X1 ss rl R f x F1 sv1 rv1 fo lo) (k2 : KM (w2.alloc (.cells #[.map (some fo), .map (some lo), .bool x.nul] 142)) w3 p X1 X2 (ss ++ x.sts) (rl ++ List.replicate x.cnt R) R f y F2 sv2 rv2 fo' lo') :
  CB w (w3.alloc (.cells #[.map (some fo'), .map (some lo'), .bool y.nul] 142)) p X ss rl R x y F2 fo lo fo' lo' b4 w2.heap.size w3.heap.size ∧ PsAt (w3.alloc (.cells #[.map (some fo'), .map (some lo'), .bool y.nul] 142)) fo (x.fst ss.length) ∧ PsAt (w3.alloc (.cells #[.map (some fo'), .map (some lo'), .bool y.nul] 142)) lo (x.lst ss.length) ∧ PsAt (w3.alloc (.cells #[.map (some fo'), .map (some lo'), .bool y.nul] 142)) fo' (y.fst (ss.length + x.cnt)) ∧ PsAt (w3.alloc (.cells #[.map (some fo'), .map (some lo'), .bool y.nul] 142)) lo' (y.lst (ss.length + x.cnt)) := by
 have a2 := (Below.refl _ w2).alloc (Nat.le_refl _) (.cells #[.map (some fo), .map (some lo), .bool x.nul] 142)
 have n6 := heap_alloc_new w2 (.cells #[.map (some fo), .map (some lo), .bool x.nul] 142)
 have s6 : (w2.alloc (.cells #[.map (some fo), .map (some lo), .bool x.nul] 142)).heap.size = w2.heap.size + 1 := by simp
 have a3 := (Below.refl _ w3).alloc (Nat.le_refl _) (.cells #[.map (some fo'), .map (some lo'), .bool y.nul] 142)
 have n7 := heap_alloc_new w3 (.cells #[.map (some fo'), .map (some lo'), .bool y.nul] 142)
 generalize w2.alloc (.cells #[.map (some fo), .map (some lo), .bool x.nul] 142) = w2' at *
 generalize w3.alloc (.cells #[.map (some fo'), .map (some lo'), .bool y.nul] 142) = w3' at *
 have e1 := hb1.size
 have e2 := k1.kb.size
 have e3 := k2.kb.size
 have lt4 := lt_of_heap h4
 have nX : ∀ i, w.heap.size ≤ i → ¬ X i := fun i hi h => by have := ha.bd.xl i h; omega
 have nX1 : ∀ i, w2.heap.size ≤ i → ¬ X1 i := fun i hi h => by have := k1.ka.bd.xl i h; omega
 have lfo := k1.pf.lt
 have llo := k1.pl.lt
 have lfo' := k2.pf.lt
 have llo' := k2.pl.lt
 have hX14 : ¬ X1 b4 := fun h => nX _ hb4 (k1.sx _ lt4 h)
 have hl : (ss ++ x.sts).length = ss.length + x.cnt := by rw [List.length_append, x.sts_len]
 have h42 := (a2.block _ (by omega)).trans ((k1.kb.block _ lt4 (nX _ hb4)).trans h4)
 have h43 := (k2.kb.block _ (lt_of_heap h42) hX14).trans h42
 have h63 := (k2.kb.block _ (lt_of_heap n6) (nX1 _ (Nat.le_refl _))).trans n6
 have f1 := k1.fr fo (.inl rfl)
 have f2 := k1.fr lo (.inr rfl)
 have f3 := k2.fr fo' (.inl rfl)
 have f4 := k2.fr lo' (.inr rfl)
 have stay : ∀ (q : Nat) (l : List Nat), PsAt w2 q l → ¬ X1 q → PsAt w3' q l := fun q l h hq => by
  have h1 := h.keep (a2.block _ h.lt)
  have h2 := h1.keep (k2.kb.block _ h1.lt hq)
  exact h2.keep (a3.block _ h2.lt)
 refine ⟨⟨⟨X2, sv2, rv2, k2.ka.bd.below a3, ?_, fun i hi h => k1.sx i (by omega) (k2.sx i (by omega) h)⟩, (a3.block _ (lt_of_heap h43)).trans h43, (a3.block _ (lt_of_heap h63)).trans h63, n7, ?_, ?_, hb4, by omega, by omega, by omega⟩, stay _ _ k1.pf f1.2, stay _ _ k1.pl f2.2, ?_, ?_⟩
 ·rintro q (rfl | rfl | rfl | rfl)
  ·exact ⟨by omega, fun h => f1.2 (k2.sx _ (by omega) h)⟩
  ·exact ⟨by omega, fun h => f2.2 (k2.sx _ (by omega) h)⟩
  ·exact ⟨by omega, f3.2⟩
  ·exact ⟨by omega, f4.2⟩
 ·have d1 := k1.dj
  have d2 := k2.dj
  simp only [List.nodup_cons, List.mem_cons, List.not_mem_nil, or_false, not_or, not_false_eq_true, List.nodup_nil, and_true]
  omega
 ·have q1 := (Kb.of_below X hb1).trans k1.kb (fun _ _ h => h)
  have q2 := q1.trans (Kb.of_below X a2) (fun _ _ h => h)
  have q3 := q2.trans k2.kb (fun i hi h => k1.sx i (by omega) h)
  exact q3.trans (Kb.of_below X a3) (fun _ _ h => h)
 ·have := k2.pf.keep (a3.block _ k2.pf.lt)
  rw [hl] at this
  exact this
 ·have := k2.pl.keep (a3.block _ k2.pl.lt)
  rw [hl] at this
  exact this

theorem core_two_ne (x y : Rx) (hx : x.core ≠ none) (hy : y.core ≠ none) : (Rx.cat x y).core ≠ none ∧ (Rx.or x y).core ≠ none := by
 simp only [Rx.core]
 cases hx' : x.core with
 | none => exact absurd hx' hx
 | some a =>
  cases hy' : y.core with
  | none => exact absurd hy' hy
  | some b => simp
theorem Up.apart {n m k : Nat} {l l' : List Nat} (h : Up n m l) (h' : Up m k l') : ∀ q ∈ l', q ∉ l := fun q hq hq' => by
 have := h.2 q hq'; have := h'.2 q hq; omega

set_option maxRecDepth 100000 in
set_option maxHeartbeats 8000000 in
theorem core_or (w : World) (p : BP) (X : Nat → Prop) (ss : List Ws) (rl : List Nat) (F : Nat → Nat → Bool) (sv rv : Value) (R : Nat) (f : Value → Option Value) (x y : Rx) (b : Nat) (n : Nat) (hknow : KnowOk n) (h : KA w p X ss rl F sv rv R f) (hn : NdAt w (.or x y) b) (hf : (f (ptr b)).isSome = true) (hcnt : ss.length + (Rx.or x y).cnt ≤ p.cnt) (hx : x.core ≠ none) (hy : y.core ≠ none) (hxs : x.size ≤ n) (hys : y.size ≤ n) :
  Calls Tryz.prog 121 #[ptr p.bb, ptr b] w (KnTo w p X ss rl R (.or x y) (fun a b => F a b || (Rx.or x y).fol ss.length a b) false) := by
 obtain ⟨g, bx, bY, h1, h2, h3, h4⟩ := id hn
 have hkd : Kids w b [bx, bY] := ⟨_, _, h1, .inr ⟨g, rfl, h2⟩⟩
 have hnd : NdsAt w (Rx.or x y).kidsL [bx, bY] := ⟨rfl, fun i r c hi hc => by
  rcases i with _ | _ | i
  ·simp [Rx.kidsL] at hi hc; subst hi; subst hc; exact h3
  ·simp [Rx.kidsL] at hi hc; subst hi; subst hc; exact h4
  ·simp at hc⟩
 obtain ⟨v0, hv0⟩ := Option.isSome_iff_exists.1 hf
 have hks := (h.kh.go.at hn hv0).2 _ hkd
 have hfx : (f (ptr bx)).isSome = true := hks bx (by simp)
 have hfy : (f (ptr bY)).isSome = true := hks bY (by simp)
 simp only [Rx.cnt] at hcnt
 have hb := (Below.refl _ w).alloc (Nat.le_refl _) (.cells #[.map none, .map none, .bool false] 142)
 have hb4 := heap_alloc_new w (.cells #[.map none, .map none, .bool false] 142)
 have s0 : (w.alloc (.cells #[.map none, .map none, .bool false] 142)).heap.size = w.heap.size + 1 := by simp
 obtain ⟨w0, hw0⟩ : ∃ w0, w0 = w.alloc (.cells #[.map none, .map none, .bool false] 142) := ⟨_, rfl⟩
 rw [← hw0] at hb hb4 s0
 have HB := zh hb; have HB4 := zh hb4; have HS0 := zh s0
 have hK := KN.of_below hb
 have HKI := zh (kind_any w0 _ b (hn.keep hK))
 have HPA := zh (parts_any w0 (.or x y) b [bx, bY] (hn.keep hK) (hkd.keep hK) ⟨rfl, fun i r c hi hc => (hnd.2 i r c hi hc).keep hK⟩)
 have HNB := zh hn
 have HX := zh h; have HKN := zh hknow
 have HO := zh (And.intro hx (And.intro hy (And.intro hxs (And.intro hys (And.intro hcnt (And.intro hfx (And.intro hfy (And.intro h3 h4))))))))
 obtain ⟨Fr, hFr⟩ : ∃ Fr, Fr = (fun a b => F a b || (Rx.or x y).fol ss.length a b) := ⟨_, rfl⟩
 rw [← hFr]
 have HFR := zh hFr
 clear hFr hb hb4 s0 hK hn hkd hnd hv0 hks hfx hfy hcnt h h1 h2 h3 h4 hknow hx hy hxs hys hf
 go_enter Tryz.func121, Tryz.ntmps121
 go_upto_region 1 with fail
 rw [← hw0]
 obtain ⟨b4, hb4⟩ : ∃ b4, b4 = w.heap.size := ⟨_, rfl⟩
 rw [← hb4]
 rw [← hb4] at HB4
 have HE4 := zh hb4
 clear hw0 hb4
 go_wp2_with fail
 refine HKI.out.mono ?_
 rintro e w0' ⟨rfl, rfl⟩
 go_upto_region 4 with fail
 refine HPA.out.mono ?_
 rintro e w1 ⟨v, rfl, hown, hb1⟩
 obtain ⟨A, c, rfl, hc1, hc2⟩ := own_form hown
 obtain ⟨g1, rfl, hcl, _, _⟩ := own_cells hown (by simp)
 obtain ⟨hge, csg, hg1⟩ := own_ty hown (g := g1) rfl
 have hc0 := hcl 0 (ptr bx) rfl
 have hcy := hcl 1 (ptr bY) rfl
 have hb01 := below_tr HB.out hb1 HB.out.size
 have HKA1 := zh (HX.out.below hb01)
 have HK1 := zh (HKN.out w1 p X ss rl F sv rv R f x bx HO.out.2.2.1 HKA1.out (HO.out.2.2.2.2.2.2.2.1.keep (KN.of_below hb01)) HO.out.2.2.2.2.2.1 (by have := HO.out.2.2.2.2.1; omega))
 have HG1 := zh (And.intro hb01 (And.intro hge (And.intro hg1 (And.intro hcy ((hb1.block _ (lt_of_heap HB4.out)).trans HB4.out)))))
 obtain ⟨z1, hz1⟩ : ∃ z1, z1 = x.nul := ⟨_, rfl⟩
 have HZ1 := zh hz1
 clear hown hb1 hcl hge hg1 hcy hb01 hc1 hc2 hz1 HPA HKI
 go_upto_region 4 with fail
 go_wp2_with fail
 refine HK1.out.mono ?_
 intro e w2 hkn
 obtain ⟨X1, sv1, rv1, fo, lo, rfl, hkm⟩ := KM.of HKA1.out HO.out.1 hkn
 rw [← HZ1.out]
 have HM1 := zh hkm
 clear hkn hkm hc0
 go_upto_region 5 with fail
 obtain ⟨w2', hw2⟩ : ∃ w2', w2' = w2.alloc (.cells #[.map (some fo), .map (some lo), .bool z1] 142) := ⟨_, rfl⟩
 have hb2 := (Below.refl _ w2).alloc (Nat.le_refl _) (.cells #[.map (some fo), .map (some lo), .bool z1] 142)
 rw [← hw2] at hb2
 have HKA2 := zh (HM1.out.ka.below hb2)
 have hk12 : KN w1 w2' := (HKA1.out.bd.kn HM1.out.kb).trans (KN.of_below hb2)
 have hgs := (hb2.block _ (by have := lt_of_heap HG1.out.2.2.1; have := HM1.out.kb.size; omega)).trans ((HM1.out.kb.block g1 (lt_of_heap HG1.out.2.2.1) (fun h => by have := HX.out.bd.xl _ h; have := HG1.out.2.1; have := HS0.out; omega)).trans HG1.out.2.2.1)
 have hcy : w2'.cell? ⟨g1, 1, none⟩ = some (ptr bY) := by rw [Lib.cell_of_heap hgs, ← Lib.cell_of_heap HG1.out.2.2.1]; exact HG1.out.2.2.2.1
 have HK2 := zh (HKN.out w2' p X1 (ss ++ x.sts) (rl ++ List.replicate x.cnt R) (fun a b => F a b || x.fol ss.length a b) sv1 rv1 R f y bY HO.out.2.2.2.1 HKA2.out ((HO.out.2.2.2.2.2.2.2.2.keep (KN.of_below HG1.out.1)).keep hk12) HO.out.2.2.2.2.2.2.1 (by have := HO.out.2.2.2.2.1; rw [List.length_append, x.sts_len]; omega))
 obtain ⟨z2, hz2⟩ : ∃ z2, z2 = y.nul := ⟨_, rfl⟩
 have HZ2 := zh hz2
 have HW2 := zh hw2
 rw [← hw2]
 obtain ⟨b6, hb6⟩ : ∃ b6, b6 = w2.heap.size := ⟨_, rfl⟩
 rw [← hb6]
 have HE6 := zh hb6
 clear hk12 hgs hz2 hb2 hw2 hb6
 go_wp2_with fail
 refine HK2.out.mono ?_
 intro e w3 hkn
 obtain ⟨X2, sv2, rv2, fo', lo', rfl, hkm⟩ := KM.of HKA2.out HO.out.2.1 hkn
 rw [← HZ2.out]
 have HM2 := zh hkm
 clear hkn hkm hcy
 go_upto_region 6 with fail
 have hcb : CB w (w3.alloc (.cells #[.map (some fo'), .map (some lo'), .bool z2] 142)) p X ss rl R x y (fun a b => (F a b || x.fol ss.length a b) || y.fol (ss ++ x.sts).length a b) fo lo fo' lo' b4 b6 w3.heap.size ∧ PsAt (w3.alloc (.cells #[.map (some fo'), .map (some lo'), .bool z2] 142)) fo (x.fst ss.length) ∧ PsAt (w3.alloc (.cells #[.map (some fo'), .map (some lo'), .bool z2] 142)) lo (x.lst ss.length) ∧ PsAt (w3.alloc (.cells #[.map (some fo'), .map (some lo'), .bool z2] 142)) fo' (y.fst (ss.length + x.cnt)) ∧ PsAt (w3.alloc (.cells #[.map (some fo'), .map (some lo'), .bool z2] 142)) lo' (y.lst (ss.length + x.cnt)) := by
  rw [HZ2.out, HE6.out]
  have hm2 := HM2.out
  rw [HW2.out, HZ1.out] at hm2
  exact CB.of HX.out HG1.out.1 (by rw [HE4.out]; exact Nat.le_refl _) HG1.out.2.2.2.2 HM1.out hm2
 rw [show (ss ++ x.sts).length = ss.length + x.cnt by rw [List.length_append, x.sts_len]] at hcb
 have HKD := zh (kind_any (w3.alloc (.cells #[.map (some fo'), .map (some lo'), .bool z2] 142)) (.or x y) b (HNB.out.keep (HX.out.bd.kn hcb.1.kb)))
 generalize w3.alloc (.cells #[.map (some fo'), .map (some lo'), .bool z2] 142) = w5 at hcb HKD ⊢
 obtain ⟨b7, hb7⟩ : ∃ b7, b7 = w3.heap.size := ⟨_, rfl⟩
 rw [← hb7] at hcb ⊢
 clear hb7 HM2 HM1 HK2 HK1 HW2 HKA2 HKA1 HG1 HKN HB4 HB HS0
 obtain ⟨hcb, p1, p2, p3, p4⟩ := hcb
 have hne4 := hcb.ne
 have m60 : w5.cell? ⟨b6, 0, none⟩ = some (.map (some fo)) := by rw [Lib.cell_of_heap hcb.h6]; rfl
 have m61 : w5.cell? ⟨b6, 1, none⟩ = some (.map (some lo)) := by rw [Lib.cell_of_heap hcb.h6]; rfl
 have m70 : w5.cell? ⟨b7, 0, none⟩ = some (.map (some fo')) := by rw [Lib.cell_of_heap hcb.h7]; rfl
 have m71 : w5.cell? ⟨b7, 1, none⟩ = some (.map (some lo')) := by rw [Lib.cell_of_heap hcb.h7]; rfl
 have HCB := zh hcb; have HP1 := zh p1; have HP2 := zh p2; have HP3 := zh p3; have HP4 := zh p4
 clear hcb p1 p2 p3 p4 hne4
 go_wp2_with fail
 refine HKD.out.mono ?_
 rintro e w6 ⟨rfl, rfl⟩
 clear HKD
 go_wp2_with fail
 refine wp_region_k 11 (fun w' => w'.cell? ⟨b6, 0, none⟩ = some (.map (some fo)) ∧ w'.cell? ⟨b6, 1, none⟩ = some (.map (some lo)) ∧ w'.cell? ⟨b7, 0, none⟩ = some (.map (some fo')) ∧ w'.cell? ⟨b7, 1, none⟩ = some (.map (some lo'))) (by kernel_rfl) (⟨m60, m61, m70, m71⟩) ?_
 intro hS
 change wpAnyK _ _ _ _ _ _ 12 (Array.replicate 12 false) _ (World.drew _)
 have HCD := zh (HCB.out.below ((Below.refl _ w6).drew))
 have HQ1 := zh (HP1.out.keep (w' := w6.drew) rfl)
 have HQ2 := zh (HP2.out.keep (w' := w6.drew) rfl)
 have HQ3 := zh (HP3.out.keep (w' := w6.drew) rfl)
 have HQ4 := zh (HP4.out.keep (w' := w6.drew) rfl)
 clear m60 m61 m70 m71 HP1 HP2 HP3 HP4 HCB
 generalize w6.drew = wd at HCD HQ1 HQ2 HQ3 HQ4 hS ⊢
 have HUP := zh (And.intro (x.fst_up ss.length) (And.intro (x.lst_up ss.length) (And.intro (y.fst_up (ss.length + x.cnt)) (y.lst_up (ss.length + x.cnt)))))
 have HND := zh (show fo ≠ lo ∧ fo ≠ fo' ∧ fo ≠ lo' ∧ lo ≠ fo' ∧ lo ≠ lo' ∧ fo' ≠ lo' from by
  have := HCD.out.nd
  simp only [List.nodup_cons, List.mem_cons, List.not_mem_nil, or_false, not_or, not_false_eq_true, List.nodup_nil, and_true] at this
  omega)
 have HSZ := zh (show x.cnt ≤ 2000 ∧ y.cnt ≤ 2000 from by have := HO.out.2.2.2.2.1; have := HX.out.cnt; omega)
 have HFRS := zh (show w.heap.size ≤ fo ∧ w.heap.size ≤ lo ∧ w.heap.size ≤ fo' ∧ w.heap.size ≤ lo' from by
  obtain ⟨X', _, _, _, hq, _⟩ := HCD.out.ex
  exact ⟨(hq fo (.inl rfl)).1, (hq lo (.inr (.inl rfl))).1, (hq fo' (.inr (.inr (.inl rfl)))).1, (hq lo' (.inr (.inr (.inr rfl)))).1⟩)
 have HJ1 := zh (joined_any wd fo fo' _ _ HQ1.out HQ3.out HND.out.2.1 (HUP.out.1.apart HUP.out.2.2.1) (by have := HUP.out.1.len; have := HSZ.out; omega) (by have := HUP.out.2.2.1.len; have := HSZ.out; omega))
 refine wpAnyK_take (i := 0) (v := ?_) rfl (by kernel_rfl) (by kernel_rfl) (by kernel_rfl) (by kernel_rfl) (fun _ _ _ h => h) (Or.inl ⟨by rfl, ?_⟩) hS ?_
 rotate_left 1
 ·intro wq _; go_simp; (try with_reducible rfl)
 try simp only [Act.put, w1z, w2z, w4z, w5z, w6z]
 refine wpAnyK_take (i := 1) (v := ?_) rfl (by kernel_rfl) (by kernel_rfl) (by kernel_rfl) (by kernel_rfl) (fun _ _ _ h => h) (Or.inl ⟨by rfl, ?_⟩) hS ?_
 rotate_left 1
 ·intro wq hq; obtain ⟨q1, q2, q3, q4⟩ := hq; go_simp; (try with_reducible rfl)
 try simp only [Act.put, w1z, w2z, w3z, w4z, w5z, w6z]
 refine wpAnyK_take (i := 2) (v := ?_) rfl (by kernel_rfl) (by kernel_rfl) (by kernel_rfl) (by kernel_rfl) (fun _ _ _ h => h) (Or.inl ⟨by rfl, ?_⟩) hS ?_
 rotate_left 1
 ·intro wq _; go_simp; (try with_reducible rfl)
 try simp only [Act.put, w1z, w2z, w3z, w4z, w5z, w6z]
 refine wpAnyK_take (i := 3) (v := ?_) rfl (by kernel_rfl) (by kernel_rfl) (by kernel_rfl) (by kernel_rfl) (fun _ _ _ h => h) (Or.inl ⟨by rfl, ?_⟩) hS ?_
 rotate_left 1
 ·intro wq hq; obtain ⟨q1, q2, q3, q4⟩ := hq; go_simp; (try with_reducible rfl)
 try simp only [Act.put, w1z, w2z, w3z, w4z, w5z, w6z]
 refine wpAnyK_take (i := 5) (v := ?_) rfl (by kernel_rfl) (by kernel_rfl) (by kernel_rfl) (by kernel_rfl) (fun _ _ _ h => h) (Or.inl ⟨by rfl, ?_⟩) hS ?_
 rotate_left 1
 ·intro wq _; go_simp; (try with_reducible rfl)
 try simp only [Act.put, w1z, w2z, w3z, w4z, w5z, w6z]
 refine wpAnyK_take (i := 6) (v := ?_) rfl (by kernel_rfl) (by kernel_rfl) (by kernel_rfl) (by kernel_rfl) (fun _ _ _ h => h) (Or.inl ⟨by rfl, ?_⟩) hS ?_
 rotate_left 1
 ·intro wq hq; obtain ⟨q1, q2, q3, q4⟩ := hq; go_simp; (try with_reducible rfl)
 try simp only [Act.put, w1z, w2z, w3z, w4z, w5z, w6z]
 refine wpAnyK_take (i := 7) (v := ?_) rfl (by kernel_rfl) (by kernel_rfl) (by kernel_rfl) (by kernel_rfl) (fun _ _ _ h => h) (Or.inl ⟨by rfl, ?_⟩) hS ?_
 rotate_left 1
 ·intro wq _; go_simp; (try with_reducible rfl)
 try simp only [Act.put, w1z, w2z, w3z, w4z, w5z, w6z]
 refine wpAnyK_take (i := 8) (v := ?_) rfl (by kernel_rfl) (by kernel_rfl) (by kernel_rfl) (by kernel_rfl) (fun _ _ _ h => h) (Or.inl ⟨by rfl, ?_⟩) hS ?_
 rotate_left 1
 ·intro wq hq; obtain ⟨q1, q2, q3, q4⟩ := hq; go_simp; (try with_reducible rfl)
 try simp only [Act.put, w1z, w2z, w3z, w4z, w5z, w6z]
 refine wpAnyK_one (i := 4) (by kernel_rfl) rfl (fun K' hK => ?_)
 go_simp
 go_at_call 147
 refine HJ1.out.mono ?_
 rintro e w7 ⟨u, rfl, hu, hpu, hk7⟩
 have HC7 := zh (HCD.out.walk hk7 (by rintro i (rfl | rfl); exact ⟨⟨_, HQ1.out⟩, HFRS.out.1⟩; exact ⟨⟨_, HQ3.out⟩, HFRS.out.2.2.1⟩))
 have HU := zh (And.intro hu hpu)
 have HR2 := zh (HQ2.out.keep (hk7.block _ HQ2.out.lt (by have := HND.out; omega)))
 have HR4 := zh (HQ4.out.keep (hk7.block _ HQ4.out.lt (by have := HND.out; omega)))
 have HJ2 := zh (joined_any w7 lo lo' _ _ HR2.out HR4.out HND.out.2.2.2.2.1 (HUP.out.2.1.apart HUP.out.2.2.2) (by have := HUP.out.2.1.len; have := HSZ.out; omega) (by have := HUP.out.2.2.2.len; have := HSZ.out; omega))
 clear hu hpu hk7
 refine hK.out _ _ (fun _ => ⟨by rw [Lib.cell_of_heap HC7.out.h6]; rfl, by rw [Lib.cell_of_heap HC7.out.h6]; rfl, by rw [Lib.cell_of_heap HC7.out.h7]; rfl, by rw [Lib.cell_of_heap HC7.out.h7]; rfl⟩) (fun hS => ?_)
 replace hS := hS (by decide)
 clear hK K'
 try simp only [Act.put, w1z, w2z, w3z, w4z, w5z, w6z]
 refine wpAnyK_one (i := 9) (by kernel_rfl) rfl (fun K' hK => ?_)
 go_simp
 go_at_call 147
 refine HJ2.out.mono ?_
 rintro e w8 ⟨v, rfl, hv, hpv, hk8⟩
 have HC8 := zh (HC7.out.walk hk8 (by rintro i (rfl | rfl); exact ⟨⟨_, HR2.out⟩, HFRS.out.2.1⟩; exact ⟨⟨_, HR4.out⟩, HFRS.out.2.2.2⟩))
 have HV := zh (And.intro hv hpv)
 have HU2 := zh (HU.out.2.keep (hk8.block _ HU.out.2.lt (by have := HND.out; rcases HU.out.1 with h | h <;> omega)))
 clear hv hpv hk8
 refine hK.out _ _ (fun _ => ⟨by rw [Lib.cell_of_heap HC8.out.h6]; rfl, by rw [Lib.cell_of_heap HC8.out.h6]; rfl, by rw [Lib.cell_of_heap HC8.out.h7]; rfl, by rw [Lib.cell_of_heap HC8.out.h7]; rfl⟩) (fun hS => ?_)
 replace hS := hS (by decide)
 clear hK K'
 try simp only [Act.put, w1z, w2z, w3z, w4z, w5z, w6z]
 refine wpAnyK_take (i := 10) (v := ?_) rfl (by kernel_rfl) (by kernel_rfl) (by kernel_rfl) (by kernel_rfl) (fun _ _ _ h => h) (Or.inl ⟨by rfl, ?_⟩) hS ?_
 rotate_left 1
 ·intro wq _; go_simp; (try with_reducible rfl)
 try simp only [Act.put, w1z, w2z, w3z, w4z, w5z, w6z]
 have e0 : w8.cell? ⟨b4, 0, none⟩ = some (.map none) := by rw [Lib.cell_of_heap HC8.out.h4]; rfl
 have e1 : w8.cell? ⟨b4, 1, none⟩ = some (.map none) := by rw [Lib.cell_of_heap HC8.out.h4]; rfl
 have e2 : w8.cell? ⟨b4, 2, none⟩ = some (.bool false) := by rw [Lib.cell_of_heap HC8.out.h4]; rfl
 have g0 : w8.frozen? ⟨b4, 0, none⟩ = false := Lib.frozen_of_heap HC8.out.h4 0
 have g1' : w8.frozen? ⟨b4, 1, none⟩ = false := Lib.frozen_of_heap HC8.out.h4 1
 have g2 : w8.frozen? ⟨b4, 2, none⟩ = false := Lib.frozen_of_heap HC8.out.h4 2
 refine wpAnyK_one (i := 11) (by kernel_rfl) rfl (fun K' hK => ?_)
 go_simp
 refine hK.out _ _ (fun h => absurd rfl h) (fun _ => ?_)
 clear hK K'
 try simp only [Act.put, w1z, w2z, w3z, w4z, w5z, w6z]
 refine wpAnyK_done (by kernel_rfl) ?_ _
 have HF := zh (HC8.out.fin (k := .or x y) (core_two_ne x y HO.out.1 HO.out.2.1).2 rfl rfl HU2.out HV.out.2 ⟨HU.out.1, HV.out.1⟩)
 have hFe : Fr = (fun a b => (F a b || x.fol ss.length a b) || y.fol (ss.length + x.cnt) a b) := by
  rw [HFR.out]; funext a b; rw [Bool.or_assoc]; rfl
 have HFE := zh hFe
 clear hFe
 go_wp2_with fail
 have hend := HF.out.2
 rw [← HFE.out] at hend
 refine bodyPost_ret (results_cell_row rfl _ _ b4 142 #[.map (some u), .map (some v), .bool false] (0, 0) _ rfl HF.out.1 Tryz.underlying142 rfl (by kernel_rfl)) rfl hend
end Go.Proofs.YtejdfpieblkapaaGreatDoor

/- knowCore: two parts, one behind the other. -/
namespace Go.Proofs.YtejdfpieblkapaaGreatDoor
open Lib renaming hid → zh
open Go.RowKit Go.Shelf

theorem Bd.xc {w : World} {p : BP} {X : Nat → Prop} {ss : List Ws} {rl : List Nat} {F : Nat → Nat → Bool} {sv rv : Value} (h : Bd w p X ss rl F sv rv) : ∀ i, X i → ∃ cs t fz, w.heap[i]? = some (.cells cs t fz) := fun i hi => by
 obtain ⟨cs, t, h1, _⟩ := h.xt i hi
 exact ⟨cs, t, _, h1⟩
theorem set1 {w : World} {b T i : Nat} {cs : Array Value} (h : w.heap[b]? = some (.cells cs T (0, 0))) (x : Value) : (w.setCell ⟨b, i, none⟩ x).heap[b]? = some (.cells (cs.setIfInBounds i x) T (0, 0)) ∧ Kb (fun j => j = b) w (w.setCell ⟨b, i, none⟩ x) := ⟨set_heap w b i _ _ _ _ h, Kb.setCell w ⟨b, i, none⟩ x⟩

set_option maxRecDepth 100000 in
set_option maxHeartbeats 8000000 in
theorem core_cat (w : World) (p : BP) (X : Nat → Prop) (ss : List Ws) (rl : List Nat) (F : Nat → Nat → Bool) (sv rv : Value) (R : Nat) (f : Value → Option Value) (x y : Rx) (b : Nat) (n : Nat) (hknow : KnowOk n) (h : KA w p X ss rl F sv rv R f) (hn : NdAt w (.cat x y) b) (hf : (f (ptr b)).isSome = true) (hcnt : ss.length + (Rx.cat x y).cnt ≤ p.cnt) (hx : x.core ≠ none) (hy : y.core ≠ none) (hxs : x.size ≤ n) (hys : y.size ≤ n) :
  Calls Tryz.prog 121 #[ptr p.bb, ptr b] w (KnTo w p X ss rl R (.cat x y) (fun a b => F a b || (Rx.cat x y).fol ss.length a b) false) := by
 obtain ⟨g, bx, bY, h1, h2, h3, h4⟩ := id hn
 have hkd : Kids w b [bx, bY] := ⟨_, _, h1, .inr ⟨g, rfl, h2⟩⟩
 have hnd : NdsAt w (Rx.cat x y).kidsL [bx, bY] := ⟨rfl, fun i r c hi hc => by
  rcases i with _ | _ | i
  ·simp [Rx.kidsL] at hi hc; subst hi; subst hc; exact h3
  ·simp [Rx.kidsL] at hi hc; subst hi; subst hc; exact h4
  ·simp at hc⟩
 obtain ⟨v0, hv0⟩ := Option.isSome_iff_exists.1 hf
 have hks := (h.kh.go.at hn hv0).2 _ hkd
 have hfx : (f (ptr bx)).isSome = true := hks bx (by simp)
 have hfy : (f (ptr bY)).isSome = true := hks bY (by simp)
 simp only [Rx.cnt] at hcnt
 have hb := (Below.refl _ w).alloc (Nat.le_refl _) (.cells #[.map none, .map none, .bool false] 142)
 have hb4 := heap_alloc_new w (.cells #[.map none, .map none, .bool false] 142)
 have s0 : (w.alloc (.cells #[.map none, .map none, .bool false] 142)).heap.size = w.heap.size + 1 := by simp
 obtain ⟨w0, hw0⟩ : ∃ w0, w0 = w.alloc (.cells #[.map none, .map none, .bool false] 142) := ⟨_, rfl⟩
 rw [← hw0] at hb hb4 s0
 have HB := zh hb; have HB4 := zh hb4; have HS0 := zh s0
 have hK := KN.of_below hb
 have HKI := zh (kind_any w0 _ b (hn.keep hK))
 have HPA := zh (parts_any w0 (.cat x y) b [bx, bY] (hn.keep hK) (hkd.keep hK) ⟨rfl, fun i r c hi hc => (hnd.2 i r c hi hc).keep hK⟩)
 have HNB := zh hn
 have HX := zh h; have HKN := zh hknow
 have HO := zh (And.intro hx (And.intro hy (And.intro hxs (And.intro hys (And.intro hcnt (And.intro hfx (And.intro hfy (And.intro h3 h4))))))))
 obtain ⟨Fr, hFr⟩ : ∃ Fr, Fr = (fun a b => F a b || (Rx.cat x y).fol ss.length a b) := ⟨_, rfl⟩
 rw [← hFr]
 have HFR := zh hFr
 clear hFr hb hb4 s0 hK hn hkd hnd hv0 hks hfx hfy hcnt h h1 h2 h3 h4 hknow hx hy hxs hys hf
 go_enter Tryz.func121, Tryz.ntmps121
 go_upto_region 1 with fail
 rw [← hw0]
 obtain ⟨b4, hb4⟩ : ∃ b4, b4 = w.heap.size := ⟨_, rfl⟩
 rw [← hb4]
 rw [← hb4] at HB4
 have HE4 := zh hb4
 clear hw0 hb4
 go_wp2_with fail
 refine HKI.out.mono ?_
 rintro e w0' ⟨rfl, rfl⟩
 go_upto_region 4 with fail
 refine HPA.out.mono ?_
 rintro e w1 ⟨v, rfl, hown, hb1⟩
 obtain ⟨A, c, rfl, hc1, hc2⟩ := own_form hown
 obtain ⟨g1, rfl, hcl, _, _⟩ := own_cells hown (by simp)
 obtain ⟨hge, csg, hg1⟩ := own_ty hown (g := g1) rfl
 have hc0 := hcl 0 (ptr bx) rfl
 have hcy := hcl 1 (ptr bY) rfl
 have hb01 := below_tr HB.out hb1 HB.out.size
 have HKA1 := zh (HX.out.below hb01)
 have HK1 := zh (HKN.out w1 p X ss rl F sv rv R f x bx HO.out.2.2.1 HKA1.out (HO.out.2.2.2.2.2.2.2.1.keep (KN.of_below hb01)) HO.out.2.2.2.2.2.1 (by have := HO.out.2.2.2.2.1; omega))
 have HG1 := zh (And.intro hb01 (And.intro hge (And.intro hg1 (And.intro hcy ((hb1.block _ (lt_of_heap HB4.out)).trans HB4.out)))))
 obtain ⟨z1, hz1⟩ : ∃ z1, z1 = x.nul := ⟨_, rfl⟩
 have HZ1 := zh hz1
 clear hown hb1 hcl hge hg1 hcy hb01 hc1 hc2 hz1 HPA HKI
 go_upto_region 4 with fail
 go_wp2_with fail
 refine HK1.out.mono ?_
 intro e w2 hkn
 obtain ⟨X1, sv1, rv1, fo, lo, rfl, hkm⟩ := KM.of HKA1.out HO.out.1 hkn
 rw [← HZ1.out]
 have HM1 := zh hkm
 clear hkn hkm hc0
 go_upto_region 5 with fail
 obtain ⟨w2', hw2⟩ : ∃ w2', w2' = w2.alloc (.cells #[.map (some fo), .map (some lo), .bool z1] 142) := ⟨_, rfl⟩
 have hb2 := (Below.refl _ w2).alloc (Nat.le_refl _) (.cells #[.map (some fo), .map (some lo), .bool z1] 142)
 rw [← hw2] at hb2
 have HKA2 := zh (HM1.out.ka.below hb2)
 have hk12 : KN w1 w2' := (HKA1.out.bd.kn HM1.out.kb).trans (KN.of_below hb2)
 have hgs := (hb2.block _ (by have := lt_of_heap HG1.out.2.2.1; have := HM1.out.kb.size; omega)).trans ((HM1.out.kb.block g1 (lt_of_heap HG1.out.2.2.1) (fun h => by have := HX.out.bd.xl _ h; have := HG1.out.2.1; have := HS0.out; omega)).trans HG1.out.2.2.1)
 have hcy : w2'.cell? ⟨g1, 1, none⟩ = some (ptr bY) := by rw [Lib.cell_of_heap hgs, ← Lib.cell_of_heap HG1.out.2.2.1]; exact HG1.out.2.2.2.1
 have HK2 := zh (HKN.out w2' p X1 (ss ++ x.sts) (rl ++ List.replicate x.cnt R) (fun a b => F a b || x.fol ss.length a b) sv1 rv1 R f y bY HO.out.2.2.2.1 HKA2.out ((HO.out.2.2.2.2.2.2.2.2.keep (KN.of_below HG1.out.1)).keep hk12) HO.out.2.2.2.2.2.2.1 (by have := HO.out.2.2.2.2.1; rw [List.length_append, x.sts_len]; omega))
 obtain ⟨z2, hz2⟩ : ∃ z2, z2 = y.nul := ⟨_, rfl⟩
 have HZ2 := zh hz2
 have HW2 := zh hw2
 rw [← hw2]
 obtain ⟨b6, hb6⟩ : ∃ b6, b6 = w2.heap.size := ⟨_, rfl⟩
 rw [← hb6]
 have HE6 := zh hb6
 clear hk12 hgs hz2 hb2 hw2 hb6
 go_wp2_with fail
 refine HK2.out.mono ?_
 intro e w3 hkn
 obtain ⟨X2, sv2, rv2, fo', lo', rfl, hkm⟩ := KM.of HKA2.out HO.out.2.1 hkn
 rw [← HZ2.out]
 have HM2 := zh hkm
 clear hkn hkm hcy
 go_upto_region 6 with fail
 have hcb : CB w (w3.alloc (.cells #[.map (some fo'), .map (some lo'), .bool z2] 142)) p X ss rl R x y (fun a b => (F a b || x.fol ss.length a b) || y.fol (ss ++ x.sts).length a b) fo lo fo' lo' b4 b6 w3.heap.size ∧ PsAt (w3.alloc (.cells #[.map (some fo'), .map (some lo'), .bool z2] 142)) fo (x.fst ss.length) ∧ PsAt (w3.alloc (.cells #[.map (some fo'), .map (some lo'), .bool z2] 142)) lo (x.lst ss.length) ∧ PsAt (w3.alloc (.cells #[.map (some fo'), .map (some lo'), .bool z2] 142)) fo' (y.fst (ss.length + x.cnt)) ∧ PsAt (w3.alloc (.cells #[.map (some fo'), .map (some lo'), .bool z2] 142)) lo' (y.lst (ss.length + x.cnt)) := by
  rw [HZ2.out, HE6.out]
  have hm2 := HM2.out
  rw [HW2.out, HZ1.out] at hm2
  exact CB.of HX.out HG1.out.1 (by rw [HE4.out]; exact Nat.le_refl _) HG1.out.2.2.2.2 HM1.out hm2
 rw [show (ss ++ x.sts).length = ss.length + x.cnt by rw [List.length_append, x.sts_len]] at hcb
 have HKD := zh (kind_any (w3.alloc (.cells #[.map (some fo'), .map (some lo'), .bool z2] 142)) (.cat x y) b (HNB.out.keep (HX.out.bd.kn hcb.1.kb)))
 generalize w3.alloc (.cells #[.map (some fo'), .map (some lo'), .bool z2] 142) = w5 at hcb HKD ⊢
 obtain ⟨b7, hb7⟩ : ∃ b7, b7 = w3.heap.size := ⟨_, rfl⟩
 rw [← hb7] at hcb ⊢
 clear hb7 HM2 HM1 HK2 HK1 HW2 HKA2 HKA1 HG1 HKN HB4 HB HS0
 obtain ⟨hcb, p1, p2, p3, p4⟩ := hcb
 have hne4 := hcb.ne
 have m60 : w5.cell? ⟨b6, 0, none⟩ = some (.map (some fo)) := by rw [Lib.cell_of_heap hcb.h6]; rfl
 have m61 : w5.cell? ⟨b6, 1, none⟩ = some (.map (some lo)) := by rw [Lib.cell_of_heap hcb.h6]; rfl
 have m70 : w5.cell? ⟨b7, 0, none⟩ = some (.map (some fo')) := by rw [Lib.cell_of_heap hcb.h7]; rfl
 have m71 : w5.cell? ⟨b7, 1, none⟩ = some (.map (some lo')) := by rw [Lib.cell_of_heap hcb.h7]; rfl
 have HCB := zh hcb; have HP1 := zh p1; have HP2 := zh p2; have HP3 := zh p3; have HP4 := zh p4
 clear hcb p1 p2 p3 p4 hne4
 go_wp2_with fail
 refine HKD.out.mono ?_
 rintro e w6 ⟨rfl, rfl⟩
 clear HKD
 go_wp2_with fail
 have HBC : Hid (Calls Tryz.prog 122 #[ptr p.bb, .map (some lo), .map (some fo')] w6 fun e w' => e = .returned (.tuple #[]) ∧ CB w w' p X ss rl R x y Fr fo lo fo' lo' b4 b6 b7 ∧ PsAt w' fo (x.fst ss.length) ∧ PsAt w' lo (x.lst ss.length) ∧ PsAt w' fo' (y.fst (ss.length + x.cnt)) ∧ PsAt w' lo' (y.lst (ss.length + x.cnt))) := zh (by
  have hcb := HCB.out
  obtain ⟨X', sv', rv', hb, hq, hx⟩ := hcb.ex
  have hcnt := HO.out.2.2.2.2.1
  refine (behind_some w6 p X' _ _ _ sv' rv' lo fo' _ _ hb (by have := HX.out.cnt; omega) HP2.out HP3.out (fun q hq => by have := (x.lst_up ss.length).2 q hq; omega) (fun q hq => by have := (y.fst_up (ss.length + x.cnt)).2 q hq; omega)).mono ?_
  rintro e w' ⟨rfl, q1, q2⟩
  have hF : addF (fun a b => (F a b || x.fol ss.length a b) || y.fol (ss.length + x.cnt) a b) (x.lst ss.length) (y.fst (ss.length + x.cnt)) = Fr := by
   rw [HFR.out]; funext a b; unfold addF; simp only [Rx.fol, Bool.or_assoc]
  rw [hF] at q1
  have st : ∀ (q : Nat) (l : List Nat), PsAt w6 q l → PsAt w' q l := fun q l h => (show PsO w6 (some q) l from h).keepc q2 hb.xc
  exact ⟨rfl, hcb.turn q2 (fun i hi => ⟨hcb.boxes hb i hi, fun h => hx i h hi⟩) ⟨X', sv', rv', q1, hq, hx⟩, st _ _ HP1.out, st _ _ HP2.out, st _ _ HP3.out, st _ _ HP4.out⟩)
 refine HBC.out.mono ?_
 rintro e w7 ⟨rfl, hcb, p1, p2, p3, p4⟩
 clear m60 m61 m70 m71 HP1 HP2 HP3 HP4 HCB HBC
 have m60 : w7.cell? ⟨b6, 0, none⟩ = some (.map (some fo)) := by rw [Lib.cell_of_heap hcb.h6]; rfl
 have m71 : w7.cell? ⟨b7, 1, none⟩ = some (.map (some lo')) := by rw [Lib.cell_of_heap hcb.h7]; rfl
 have hal := (Below.refl _ w7).alloc (Nat.le_refl _) (.cells #[.map (some fo), .map (some lo'), .bool false] 142)
 have n8 := heap_alloc_new w7 (.cells #[.map (some fo), .map (some lo'), .bool false] 142)
 have HB8 := zh (show ¬ (w7.heap.size = b4 ∨ w7.heap.size = b6 ∨ w7.heap.size = b7) ∧ w.heap.size ≤ w7.heap.size from ⟨by have := lt_of_heap hcb.h4; have := lt_of_heap hcb.h6; have := lt_of_heap hcb.h7; omega, hcb.kb.size⟩)
 have HCB := zh (hcb.below hal)
 have HP1 := zh (p1.keep (hal.block _ p1.lt)); have HP2 := zh (p2.keep (hal.block _ p2.lt)); have HP3 := zh (p3.keep (hal.block _ p3.lt)); have HP4 := zh (p4.keep (hal.block _ p4.lt))
 have HN8 := zh n8
 have HUP := zh (And.intro (x.fst_up ss.length) (And.intro (x.lst_up ss.length) (And.intro (y.fst_up (ss.length + x.cnt)) (y.lst_up (ss.length + x.cnt)))))
 have HND := zh (show fo ≠ lo ∧ fo ≠ fo' ∧ fo ≠ lo' ∧ lo ≠ fo' ∧ lo ≠ lo' ∧ fo' ≠ lo' from by
  have := hcb.nd
  simp only [List.nodup_cons, List.mem_cons, List.not_mem_nil, or_false, not_or, not_false_eq_true, List.nodup_nil, and_true] at this
  omega)
 have HSZ := zh (show x.cnt ≤ 2000 ∧ y.cnt ≤ 2000 from by have := HO.out.2.2.2.2.1; have := HX.out.cnt; omega)
 have HFRS := zh (show w.heap.size ≤ fo ∧ w.heap.size ≤ lo ∧ w.heap.size ≤ fo' ∧ w.heap.size ≤ lo' from by
  obtain ⟨X', _, _, _, hq, _⟩ := hcb.ex
  exact ⟨(hq fo (.inl rfl)).1, (hq lo (.inr (.inl rfl))).1, (hq fo' (.inr (.inr (.inl rfl)))).1, (hq lo' (.inr (.inr (.inr rfl)))).1⟩)
 clear hcb p1 p2 p3 p4 hal n8
 go_upto_region 10 with fail
 clear m60 m71
 generalize w7.alloc (.cells #[.map (some fo), .map (some lo'), .bool false] 142) = w8 at HCB HP1 HP2 HP3 HP4 HN8 ⊢
 obtain ⟨b8, hb8⟩ : ∃ b8, b8 = w7.heap.size := ⟨_, rfl⟩
 rw [← hb8] at HB8 HN8 ⊢
 clear hb8
 have m62 : w8.cell? ⟨b6, 2, none⟩ = some (.bool z1) := by rw [Lib.cell_of_heap HCB.out.h6, HZ1.out]; rfl
 have m60 : w8.cell? ⟨b6, 0, none⟩ = some (.map (some fo)) := by rw [Lib.cell_of_heap HCB.out.h6]; rfl
 have m70 : w8.cell? ⟨b7, 0, none⟩ = some (.map (some fo')) := by rw [Lib.cell_of_heap HCB.out.h7]; rfl
 cases z1 with
 | false =>
  have HU := zh (show (fo = fo ∨ fo = fo') ∧ PsAt w8 fo ((Rx.cat x y).fst ss.length) from ⟨.inl rfl, by have := HP1.out; simp only [Rx.fst]; rw [← HZ1.out, if_neg (by decide)]; exact this⟩)
  go_upto_region 12 with fail
  clear m62 m60 m70
  have m72 : w8.cell? ⟨b7, 2, none⟩ = some (.bool z2) := by rw [Lib.cell_of_heap HCB.out.h7, HZ2.out]; rfl
  have m61 : w8.cell? ⟨b6, 1, none⟩ = some (.map (some lo)) := by rw [Lib.cell_of_heap HCB.out.h6]; rfl
  have m71 : w8.cell? ⟨b7, 1, none⟩ = some (.map (some lo')) := by rw [Lib.cell_of_heap HCB.out.h7]; rfl
  cases z2 with
  | false =>
   have HV := zh (show (lo' = lo ∨ lo' = lo') ∧ PsAt w8 lo' ((Rx.cat x y).lst ss.length) from ⟨.inr rfl, by have := HP4.out; simp only [Rx.lst]; rw [← HZ2.out, if_neg (by decide)]; exact this⟩)
   go_upto_region 14 with fail
   have e0 : w8.cell? ⟨b4, 0, none⟩ = some (.map none) := by rw [Lib.cell_of_heap HCB.out.h4]; rfl
   have e1 : w8.cell? ⟨b4, 1, none⟩ = some (.map none) := by rw [Lib.cell_of_heap HCB.out.h4]; rfl
   have e2 : w8.cell? ⟨b4, 2, none⟩ = some (.bool false) := by rw [Lib.cell_of_heap HCB.out.h4]; rfl
   have g0 : w8.frozen? ⟨b4, 0, none⟩ = false := Lib.frozen_of_heap HCB.out.h4 0
   have g1' : w8.frozen? ⟨b4, 1, none⟩ = false := Lib.frozen_of_heap HCB.out.h4 1
   have g2 : w8.frozen? ⟨b4, 2, none⟩ = false := Lib.frozen_of_heap HCB.out.h4 2
   have d0 : w8.cell? ⟨b8, 0, none⟩ = some (.map (some fo)) := by rw [Lib.cell_of_heap HN8.out]; rfl
   have d1 : w8.cell? ⟨b8, 1, none⟩ = some (.map (some lo')) := by rw [Lib.cell_of_heap HN8.out]; rfl
   have d2 : w8.cell? ⟨b8, 2, none⟩ = some (.bool false) := by rw [Lib.cell_of_heap HN8.out]; rfl
   have HF := zh (HCB.out.fin (k := .cat x y) (core_two_ne x y HO.out.1 HO.out.2.1).1 rfl rfl HU.out.2 HV.out.2 ⟨by first | exact HU.out.1 | exact .inl rfl, by first | exact HV.out.1 | exact .inr rfl⟩)
   go_wp2_with fail
   refine bodyPost_ret (results_cell_row rfl _ _ b4 142 #[.map (some fo), .map (some lo'), .bool false] (0, 0) _ rfl HF.out.1 Tryz.underlying142 rfl (by kernel_rfl)) rfl HF.out.2
  | true =>
   have HJ2 := zh (joined_any w8 lo lo' _ _ HP2.out HP4.out HND.out.2.2.2.2.1 (HUP.out.2.1.apart HUP.out.2.2.2) (by have := HUP.out.2.1.len; have := HSZ.out; omega) (by have := HUP.out.2.2.2.len; have := HSZ.out; omega))
   go_wp2_with fail
   refine HJ2.out.mono ?_
   rintro e wb ⟨v, rfl, hv, hpv, hkb⟩
   have hcb := HCB.out.walk hkb (by rintro i (rfl | rfl); exact ⟨⟨_, HP2.out⟩, HFRS.out.2.1⟩; exact ⟨⟨_, HP4.out⟩, HFRS.out.2.2.2⟩)
   have hu2 := HU.out.2.keep (hkb.block _ HU.out.2.lt (by have := HND.out; first | (rcases HU.out.1 with h | h <;> omega) | omega))
   have hn8 := (hkb.block _ (lt_of_heap HN8.out) (by
    rintro (h | h)
    ·obtain ⟨es, clk, hm⟩ := HP2.out.isMap
     have h8 := HN8.out
     rw [h, hm] at h8; cases h8
    ·obtain ⟨es, clk, hm⟩ := HP4.out.isMap
     have h8 := HN8.out
     rw [h, hm] at h8; cases h8)).trans HN8.out
   obtain ⟨s1, s2⟩ := set1 (i := 1) hn8 (.map (some v))
   have d1' : wb.cell? ⟨b8, 1, none⟩ = some (.map (some lo')) := by rw [Lib.cell_of_heap hn8]; rfl
   have fr1 : wb.frozen? ⟨b8, 1, none⟩ = false := Lib.frozen_of_heap hn8 1
   have HQ := zh (And.intro (hcb.box s2 hn8 HB8.out) (And.intro (hu2.keep (s2.block _ hu2.lt (fun e => by obtain ⟨es, clk, hm⟩ := hu2.isMap; rw [e, hn8] at hm; cases hm))) (And.intro (hpv.keep (s2.block _ hpv.lt (fun e => by obtain ⟨es, clk, hm⟩ := hpv.isMap; rw [e, hn8] at hm; cases hm))) (And.intro s1 hv))))
   clear hcb hu2 hn8 s1 s2 hpv hv hkb HJ2 m72 m61 m71
   go_upto_region 14 with fail
   clear d1' fr1
   generalize wb.setCell ⟨b8, 1, none⟩ (.map (some v)) = wc at HQ ⊢
   clear HCB HN8
   have HCB := zh HQ.out.1
   have HU := zh (And.intro HU.out.1 HQ.out.2.1)
   have HN8 := zh HQ.out.2.2.2.1
   have HV := zh (show (v = lo ∨ v = lo') ∧ PsAt wc v ((Rx.cat x y).lst ss.length) from ⟨HQ.out.2.2.2.2, by have := HQ.out.2.2.1; simp only [Rx.lst]; rw [← HZ2.out, if_pos rfl]; exact this⟩)
   have e0 : wc.cell? ⟨b4, 0, none⟩ = some (.map none) := by rw [Lib.cell_of_heap HCB.out.h4]; rfl
   have e1 : wc.cell? ⟨b4, 1, none⟩ = some (.map none) := by rw [Lib.cell_of_heap HCB.out.h4]; rfl
   have e2 : wc.cell? ⟨b4, 2, none⟩ = some (.bool false) := by rw [Lib.cell_of_heap HCB.out.h4]; rfl
   have g0 : wc.frozen? ⟨b4, 0, none⟩ = false := Lib.frozen_of_heap HCB.out.h4 0
   have g1' : wc.frozen? ⟨b4, 1, none⟩ = false := Lib.frozen_of_heap HCB.out.h4 1
   have g2 : wc.frozen? ⟨b4, 2, none⟩ = false := Lib.frozen_of_heap HCB.out.h4 2
   have d0 : wc.cell? ⟨b8, 0, none⟩ = some (.map (some fo)) := by rw [Lib.cell_of_heap HN8.out]; rfl
   have d1 : wc.cell? ⟨b8, 1, none⟩ = some (.map (some v)) := by rw [Lib.cell_of_heap HN8.out]; rfl
   have d2 : wc.cell? ⟨b8, 2, none⟩ = some (.bool false) := by rw [Lib.cell_of_heap HN8.out]; rfl
   have HF := zh (HCB.out.fin (k := .cat x y) (core_two_ne x y HO.out.1 HO.out.2.1).1 rfl rfl HU.out.2 HV.out.2 ⟨by first | exact HU.out.1 | exact .inl rfl, by first | exact HV.out.1 | exact .inr rfl⟩)
   go_wp2_with fail
   refine bodyPost_ret (results_cell_row rfl _ _ b4 142 #[.map (some fo), .map (some v), .bool false] (0, 0) _ rfl HF.out.1 Tryz.underlying142 rfl (by kernel_rfl)) rfl HF.out.2
 | true =>
  have HJ1 := zh (joined_any w8 fo fo' _ _ HP1.out HP3.out HND.out.2.1 (HUP.out.1.apart HUP.out.2.2.1) (by have := HUP.out.1.len; have := HSZ.out; omega) (by have := HUP.out.2.2.1.len; have := HSZ.out; omega))
  go_upto_region 12 with fail
  refine HJ1.out.mono ?_
  rintro e wb ⟨u, rfl, hu, hpu, hkb⟩
  have hcb := HCB.out.walk hkb (by rintro i (rfl | rfl); exact ⟨⟨_, HP1.out⟩, HFRS.out.1⟩; exact ⟨⟨_, HP3.out⟩, HFRS.out.2.2.1⟩)
  have hp2 := HP2.out.keep (hkb.block _ HP2.out.lt (by have := HND.out; omega))
  have hp4 := HP4.out.keep (hkb.block _ HP4.out.lt (by have := HND.out; omega))
  have hn8 := (hkb.block _ (lt_of_heap HN8.out) (by
   rintro (h | h)
   ·obtain ⟨es, clk, hm⟩ := HP1.out.isMap
    have h8 := HN8.out
    rw [h, hm] at h8; cases h8
   ·obtain ⟨es, clk, hm⟩ := HP3.out.isMap
    have h8 := HN8.out
    rw [h, hm] at h8; cases h8)).trans HN8.out
  obtain ⟨s1, s2⟩ := set1 (i := 0) hn8 (.map (some u))
  have d0' : wb.cell? ⟨b8, 0, none⟩ = some (.map (some fo)) := by rw [Lib.cell_of_heap hn8]; rfl
  have fr0 : wb.frozen? ⟨b8, 0, none⟩ = false := Lib.frozen_of_heap hn8 0
  have nm : ∀ (q : Nat) (l : List Nat), PsAt wb q l → PsAt (wb.setCell ⟨b8, 0, none⟩ (.map (some u))) q l := fun q l h => h.keep (s2.block _ h.lt (fun e => by obtain ⟨es, clk, hm⟩ := h.isMap; rw [e, hn8] at hm; cases hm))
  have HQ := zh (And.intro (hcb.box s2 hn8 HB8.out) (And.intro (nm _ _ hpu) (And.intro (nm _ _ hp2) (And.intro (nm _ _ hp4) (And.intro s1 hu)))))
  clear hcb hp2 hp4 hn8 s1 s2 hpu hu hkb HJ1 m62 m60 m70 nm
  go_upto_region 12 with fail
  clear d0' fr0
  generalize wb.setCell ⟨b8, 0, none⟩ (.map (some u)) = wa at HQ ⊢
  clear HCB HN8 HP1 HP2 HP3 HP4
  have HCB := zh HQ.out.1
  have HP2 := zh HQ.out.2.2.1
  have HP4 := zh HQ.out.2.2.2.1
  have HN8 := zh HQ.out.2.2.2.2.1
  have HU := zh (show (u = fo ∨ u = fo') ∧ PsAt wa u ((Rx.cat x y).fst ss.length) from ⟨HQ.out.2.2.2.2.2, by have := HQ.out.2.1; simp only [Rx.fst]; rw [← HZ1.out, if_pos rfl]; exact this⟩)
  have m72 : wa.cell? ⟨b7, 2, none⟩ = some (.bool z2) := by rw [Lib.cell_of_heap HCB.out.h7, HZ2.out]; rfl
  have m61 : wa.cell? ⟨b6, 1, none⟩ = some (.map (some lo)) := by rw [Lib.cell_of_heap HCB.out.h6]; rfl
  have m71 : wa.cell? ⟨b7, 1, none⟩ = some (.map (some lo')) := by rw [Lib.cell_of_heap HCB.out.h7]; rfl
  cases z2 with
  | false =>
   have HV := zh (show (lo' = lo ∨ lo' = lo') ∧ PsAt wa lo' ((Rx.cat x y).lst ss.length) from ⟨.inr rfl, by have := HP4.out; simp only [Rx.lst]; rw [← HZ2.out, if_neg (by decide)]; exact this⟩)
   go_upto_region 14 with fail
   have e0 : wa.cell? ⟨b4, 0, none⟩ = some (.map none) := by rw [Lib.cell_of_heap HCB.out.h4]; rfl
   have e1 : wa.cell? ⟨b4, 1, none⟩ = some (.map none) := by rw [Lib.cell_of_heap HCB.out.h4]; rfl
   have e2 : wa.cell? ⟨b4, 2, none⟩ = some (.bool false) := by rw [Lib.cell_of_heap HCB.out.h4]; rfl
   have g0 : wa.frozen? ⟨b4, 0, none⟩ = false := Lib.frozen_of_heap HCB.out.h4 0
   have g1' : wa.frozen? ⟨b4, 1, none⟩ = false := Lib.frozen_of_heap HCB.out.h4 1
   have g2 : wa.frozen? ⟨b4, 2, none⟩ = false := Lib.frozen_of_heap HCB.out.h4 2
   have d0 : wa.cell? ⟨b8, 0, none⟩ = some (.map (some u)) := by rw [Lib.cell_of_heap HN8.out]; rfl
   have d1 : wa.cell? ⟨b8, 1, none⟩ = some (.map (some lo')) := by rw [Lib.cell_of_heap HN8.out]; rfl
   have d2 : wa.cell? ⟨b8, 2, none⟩ = some (.bool false) := by rw [Lib.cell_of_heap HN8.out]; rfl
   have HF := zh (HCB.out.fin (k := .cat x y) (core_two_ne x y HO.out.1 HO.out.2.1).1 rfl rfl HU.out.2 HV.out.2 ⟨by first | exact HU.out.1 | exact .inl rfl, by first | exact HV.out.1 | exact .inr rfl⟩)
   go_wp2_with fail
   refine bodyPost_ret (results_cell_row rfl _ _ b4 142 #[.map (some u), .map (some lo'), .bool false] (0, 0) _ rfl HF.out.1 Tryz.underlying142 rfl (by kernel_rfl)) rfl HF.out.2
  | true =>
   have HJ2 := zh (joined_any wa lo lo' _ _ HP2.out HP4.out HND.out.2.2.2.2.1 (HUP.out.2.1.apart HUP.out.2.2.2) (by have := HUP.out.2.1.len; have := HSZ.out; omega) (by have := HUP.out.2.2.2.len; have := HSZ.out; omega))
   go_wp2_with fail
   refine HJ2.out.mono ?_
   rintro e wb ⟨v, rfl, hv, hpv, hkb⟩
   have hcb := HCB.out.walk hkb (by rintro i (rfl | rfl); exact ⟨⟨_, HP2.out⟩, HFRS.out.2.1⟩; exact ⟨⟨_, HP4.out⟩, HFRS.out.2.2.2⟩)
   have hu2 := HU.out.2.keep (hkb.block _ HU.out.2.lt (by have := HND.out; first | (rcases HU.out.1 with h | h <;> omega) | omega))
   have hn8 := (hkb.block _ (lt_of_heap HN8.out) (by
    rintro (h | h)
    ·obtain ⟨es, clk, hm⟩ := HP2.out.isMap
     have h8 := HN8.out
     rw [h, hm] at h8; cases h8
    ·obtain ⟨es, clk, hm⟩ := HP4.out.isMap
     have h8 := HN8.out
     rw [h, hm] at h8; cases h8)).trans HN8.out
   obtain ⟨s1, s2⟩ := set1 (i := 1) hn8 (.map (some v))
   have d1' : wb.cell? ⟨b8, 1, none⟩ = some (.map (some lo')) := by rw [Lib.cell_of_heap hn8]; rfl
   have fr1 : wb.frozen? ⟨b8, 1, none⟩ = false := Lib.frozen_of_heap hn8 1
   have HQ := zh (And.intro (hcb.box s2 hn8 HB8.out) (And.intro (hu2.keep (s2.block _ hu2.lt (fun e => by obtain ⟨es, clk, hm⟩ := hu2.isMap; rw [e, hn8] at hm; cases hm))) (And.intro (hpv.keep (s2.block _ hpv.lt (fun e => by obtain ⟨es, clk, hm⟩ := hpv.isMap; rw [e, hn8] at hm; cases hm))) (And.intro s1 hv))))
   clear hcb hu2 hn8 s1 s2 hpv hv hkb HJ2 m72 m61 m71
   go_upto_region 14 with fail
   clear d1' fr1
   generalize wb.setCell ⟨b8, 1, none⟩ (.map (some v)) = wc at HQ ⊢
   clear HCB HN8
   have HCB := zh HQ.out.1
   have HU := zh (And.intro HU.out.1 HQ.out.2.1)
   have HN8 := zh HQ.out.2.2.2.1
   have HV := zh (show (v = lo ∨ v = lo') ∧ PsAt wc v ((Rx.cat x y).lst ss.length) from ⟨HQ.out.2.2.2.2, by have := HQ.out.2.2.1; simp only [Rx.lst]; rw [← HZ2.out, if_pos rfl]; exact this⟩)
   have e0 : wc.cell? ⟨b4, 0, none⟩ = some (.map none) := by rw [Lib.cell_of_heap HCB.out.h4]; rfl
   have e1 : wc.cell? ⟨b4, 1, none⟩ = some (.map none) := by rw [Lib.cell_of_heap HCB.out.h4]; rfl
   have e2 : wc.cell? ⟨b4, 2, none⟩ = some (.bool false) := by rw [Lib.cell_of_heap HCB.out.h4]; rfl
   have g0 : wc.frozen? ⟨b4, 0, none⟩ = false := Lib.frozen_of_heap HCB.out.h4 0
   have g1' : wc.frozen? ⟨b4, 1, none⟩ = false := Lib.frozen_of_heap HCB.out.h4 1
   have g2 : wc.frozen? ⟨b4, 2, none⟩ = false := Lib.frozen_of_heap HCB.out.h4 2
   have d0 : wc.cell? ⟨b8, 0, none⟩ = some (.map (some u)) := by rw [Lib.cell_of_heap HN8.out]; rfl
   have d1 : wc.cell? ⟨b8, 1, none⟩ = some (.map (some v)) := by rw [Lib.cell_of_heap HN8.out]; rfl
   have d2 : wc.cell? ⟨b8, 2, none⟩ = some (.bool false) := by rw [Lib.cell_of_heap HN8.out]; rfl
   have HF := zh (HCB.out.fin (k := .cat x y) (core_two_ne x y HO.out.1 HO.out.2.1).1 rfl rfl HU.out.2 HV.out.2 ⟨by first | exact HU.out.1 | exact .inl rfl, by first | exact HV.out.1 | exact .inr rfl⟩)
   go_wp2_with fail
   refine bodyPost_ret (results_cell_row rfl _ _ b4 142 #[.map (some u), .map (some v), .bool false] (0, 0) _ rfl HF.out.1 Tryz.underlying142 rfl (by kernel_rfl)) rfl HF.out.2
end Go.Proofs.YtejdfpieblkapaaGreatDoor

/- know, of any node. -/
namespace Go.Proofs.YtejdfpieblkapaaGreatDoor
open Go.RowKit Go.Shelf

theorem Rx.size_posg (r : Rx) : 1 ≤ r.size := by cases r <;> simp [Rx.size] <;> omega
theorem core_ok (n : Nat) (ih : ∀ m, m < n → KnowOk m) : CoreOk n := by
 intro w p X ss rl F sv rv R f k r b hk hc h hn hf hcnt
 rcases r.core_shape k hc with ⟨s, rfl⟩ | ⟨x, y, rfl | rfl, hx, hy⟩
 ·exact core_set w p X ss rl F sv rv R f s b h hn hcnt
 ·simp only [Rx.size] at hk
  have h1 := x.size_posg; have h2 := y.size_posg
  exact core_cat w p X ss rl F sv rv R f x y b (n - 1) (ih (n - 1) (by omega)) h hn hf hcnt hx hy (by omega) (by omega)
 ·simp only [Rx.size] at hk
  have h1 := x.size_posg; have h2 := y.size_posg
  exact core_or w p X ss rl F sv rv R f x y b (n - 1) (ih (n - 1) (by omega)) h hn hf hcnt hx hy (by omega) (by omega)
theorem know_any (n : Nat) : KnowOk n := by
 induction n using Nat.strongRecOn with
 | ind n ih =>
  intro w p X ss rl F sv rv R f r b hr h hn hf hcnt
  cases hc : r.core with
  | none => exact know_none w p X ss rl F sv rv R f r b h hn hf hc
  | some k => exact know_some w p X ss rl F sv rv R f r b h hn hf k hc n (Nat.le_trans (r.core_of k hc).size hr) (core_ok n ih) hcnt
end Go.Proofs.YtejdfpieblkapaaGreatDoor
