/- What edits.appendLean answers: what is left of an edit, behind a row of edits of the call's own. -/
import Derived.Test.YtpifobaejmfppaaJ
import Derived.Deep.DeepCutAuto
namespace Go.Proofs.Ytpifobaejmfppaa
open Go.RowKit

/-- The block of an edit that came in by value. -/
def BoxEd (w : World) (b : Nat) (f t : Int) (x : ByteArray) : Prop := w.heap[b]? = some (.cells #[.int .i64 f, .int .i64 t, .string x] 35 (0, 0))

theorem OneStr.set {w : World} {b : Nat} {g : ByteArray} (h : OneStr w b g) (x : ByteArray) : OneStr (w.setCell ⟨b, 0, none⟩ (.string x)) b x := by
  unfold OneStr at h ⊢
  simp [World.setCell, Array.getElem?_modify, h]
theorem OneStr.far {w : World} {b : Nat} {g : ByteArray} (h : OneStr w b g) {p : Addr} (hp : b ≠ p.block) (u : Value) : OneStr (w.setCell p u) b g := (Below.heap_setCell w p u b hp).trans h
theorem BoxEd.far {w : World} {b : Nat} {f t : Int} {x : ByteArray} (h : BoxEd w b f t x) {p : Addr} (hp : b ≠ p.block) (u : Value) : BoxEd (w.setCell p u) b f t x := (Below.heap_setCell w p u b hp).trans h
theorem BoxEd.below {w w' : World} {b B : Nat} {f t : Int} {x : ByteArray} (h : BoxEd w b f t x) (hb : Below B w w') (hlt : b < B) : BoxEd w' b f t x := (hb.block b hlt).trans h

theorem alloc3 (w : World) (o0 o1 o2 : Obj) : (((w.alloc o0).alloc o1).alloc o2).heap[w.heap.size]? = some o0 ∧ (((w.alloc o0).alloc o1).alloc o2).heap[w.heap.size + 1]? = some o1 ∧ (((w.alloc o0).alloc o1).alloc o2).heap[w.heap.size + 1 + 1]? = some o2 := by
  have a0 := heap_alloc_new w o0
  have a1 := heap_alloc_new (w.alloc o0) o1
  have a2 := heap_alloc_new ((w.alloc o0).alloc o1) o2
  have s1 : (w.alloc o0).heap.size = w.heap.size + 1 := by simp
  have s2 : ((w.alloc o0).alloc o1).heap.size = w.heap.size + 1 + 1 := by simp
  rw [s1] at a1
  rw [s2] at a2
  refine ⟨?_, ?_, a2⟩
  · exact (Below.heap_alloc _ o2 _ (by omega)).trans ((Below.heap_alloc _ o1 _ (by omega)).trans a0)
  · exact (Below.heap_alloc _ o2 _ (by omega)).trans a1

theorem grown_tr {w wx w' : World} {row : Option Nat} (hb : Below w.heap.size w wx) (hg : wx.grownBy w' row) : w.grownBy w' row :=
  ⟨hg.os.trans hb.os, hg.tape.trans hb.tape, hg.output.trans hb.output, Nat.le_trans hb.size hg.size, fun i hi hn => (hg.block i (Nat.lt_of_lt_of_le hi hb.size) hn).trans (hb.block i hi)⟩

/-- What appendLean leaves. -/
def LeanBack (base : Nat) (v : Value) (n : Nat) (xs : List Value) (l : List Ed) (w : World) (e : Ending) (w' : World) : Prop :=
  ∃ A c, e = .returned (.slice A (n + l.length) c) ∧ w'.ownsRow base 35 3 (.slice A (n + l.length) c) (n + l.length) (xs ++ edCells l) ∧ w.grownBy w' v.ownBlock ∧ ((Value.slice A (n + l.length) c).ownBlock = v.ownBlock ∨ ∃ g, (Value.slice A (n + l.length) c).ownBlock = some g ∧ w.heap.size ≤ g)

set_option maxRecDepth 100000 in
set_option maxHeartbeats 3200000 in
theorem appendLean_any (s x : ByteArray) (f t : Int) (A : Option Addr) (n c base : Nat) (xs : List Value) (w : World) (hown : w.ownsRow base 35 3 (.slice A n c) n xs) (hbase : base ≤ w.heap.size) (hn : n ≤ 1048576)
    (h1 : 0 ≤ f) (h2 : f ≤ t) (h3 : t ≤ s.size) (h4 : s.size ≤ 1099511627776) (h5 : x.size ≤ 1099511627776) :
    Calls Try.prog 46 #[.slice A n c, .string s, .agg #[.int .i64 f, .int .i64 t, .string x]] w (LeanBack base (.slice A n c) n xs (leanOf s.data.toList ⟨f, t, x⟩) w) := by
  have HO := Lib.hid hown; clear hown
  go_enter Try.func46, Try.ntmps46
  go_upto_region 1 with fail
  go_cut [7, 8] (fun s7 s8 wx => ∃ bg bp : Nat, s7 = .pointer (some ⟨bg, 0, none⟩) ∧ s8 = .pointer (some ⟨bp, 0, none⟩) ∧ bg ≠ bp ∧ w.heap.size < bg ∧ w.heap.size < bp ∧ Hid (OneStr wx bg (s.extract f.toNat t.toNat)) ∧ Hid (OneStr wx bp x) ∧ Hid (BoxEd wx w.heap.size f t x) ∧ Below w.heap.size w wx)
  case first =>
    go_region
    all_goals (go_wp2_with fail; go_meet)
    · obtain ⟨e0, e1, e2⟩ := alloc3 w (.cells #[.int .i64 f, .int .i64 t, .string x] 35) (.cells #[.string (s.extract f.toNat t.toNat)] 9) (.cells #[.string x] 9)
      exact ⟨_, _, rfl, rfl, by omega, by omega, by omega, e1, e2, e0, ((((Below.refl _ _).alloc (Nat.le_refl _) _).alloc (by simp) _).alloc (by simp; omega) _).drew⟩
    · obtain ⟨e0, e1, e2⟩ := alloc3 w (.cells #[.int .i64 f, .int .i64 t, .string x] 35) (.cells #[.string x] 9) (.cells #[.string (s.extract f.toNat t.toNat)] 9)
      exact ⟨_, _, rfl, rfl, by omega, by omega, by omega, e2, e1, e0, ((((Below.refl _ _).alloc (Nat.le_refl _) _).alloc (by simp) _).alloc (by simp; omega) _).drew⟩
  case rest =>
    obtain ⟨bg, bp, rfl, rfl, hne, lg, lp, HG, HP, HB, hb⟩ := hcut
    have hgs : (s.extract f.toNat t.toNat).size = t.toNat - f.toNat := by rw [ByteArray.size_extract]; omega
    have hgd : goneOf s.data.toList ⟨f, t, x⟩ = (s.extract f.toNat t.toNat).data.toList := (Lib.extract_data _ _ _).symm
    generalize s.extract f.toNat t.toNat = g at *
    have HGD := Lib.hid hgd; clear hgd
    have HGS := Lib.hid hgs
    have hgs2 : g.size ≤ 1099511627776 := by omega
    clear hgs
    have cg := HG.out.cell
    have cp := HP.out.cell
    go_wp2_with fail
    refine (same1_any bg bp _ _ _ _ HG.out HP.out (by omega) hgs2 h5).mono ?_
    rintro e w2 ⟨rfl, hb2⟩
    have hnn := lcp_le g.data.toList x.data.toList
    rw [← Lib.size_eq, ← Lib.size_eq] at hnn
    obtain ⟨hn1, hn2⟩ := hnn
    have hzc := hb.size
    have HG2 := Lib.hid (HG.out.below hb2 HG.out.lt)
    have HP2 := Lib.hid (HP.out.below hb2 HP.out.lt)
    have HB2 := Lib.hid (HB.out.below hb2 (Nat.lt_of_le_of_lt (Nat.le_of_lt lg) HG.out.lt))
    have hb2' := below_tr hb hb2 hzc
    clear hb2 HG HP HB cg cp hb hzc
    have cg := HG2.out.cell
    have cp := HP2.out.cell
    have fg := HG2.out.frozen
    have fp := HP2.out.frozen
    generalize hN : lcp g.data.toList x.data.toList = N at *
    have HN := Lib.hid hN; clear hN
    go_upto_region 3 with fail
    go_cut [] (fun wx => Hid (OneStr wx bg (g.extract N g.size)) ∧ Hid (OneStr wx bp (x.extract N x.size)) ∧ Hid (BoxEd wx w.heap.size f t x) ∧ Below w.heap.size w wx)
    case first =>
      go_region
      go_wp2_with fail
      go_meet
      have k1 := (HG2.out.set (g.extract N g.size)).far (p := ⟨bp, 0, none⟩) hne (.string (x.extract N x.size))
      have k2 := (HP2.out.far (p := ⟨bg, 0, none⟩) (Ne.symm hne) (.string (g.extract N g.size))).set (x.extract N x.size)
      have k3 := (HB2.out.far (p := ⟨bg, 0, none⟩) (by show w.heap.size ≠ bg; omega) (.string (g.extract N g.size))).far (p := ⟨bp, 0, none⟩) (by show w.heap.size ≠ bp; omega) (.string (x.extract N x.size))
      exact ⟨k1, k2, k3, ((hb2'.setCell (p := ⟨bg, 0, none⟩) (by show w.heap.size ≤ bg; omega) _).setCell (p := ⟨bp, 0, none⟩) (by show w.heap.size ≤ bp; omega) _).drew⟩
    case rest =>
      obtain ⟨HG3, HP3, HB3, hb3⟩ := hcut
      clear cg cp fg fp HG2 HP2 HB2 hb2'
      have hg2s : (g.extract N g.size).size = g.size - N := by rw [ByteArray.size_extract]; omega
      have hp2s : (x.extract N x.size).size = x.size - N := by rw [ByteArray.size_extract]; omega
      have hg2d := ext_to_end g N
      have hp2d := ext_to_end x N
      generalize g.extract N g.size = g2 at *
      generalize x.extract N x.size = p2 at *
      have HG2D := Lib.hid hg2d; have HP2D := Lib.hid hp2d; have HG2S := Lib.hid hg2s; have HP2S := Lib.hid hp2s
      have hg2b : g2.size ≤ 1099511627776 := by omega
      have hp2b : p2.size ≤ 1099511627776 := by omega
      clear hg2d hp2d hg2s hp2s
      have cg := HG3.out.cell
      have cp := HP3.out.cell
      have fp := HP3.out.frozen
      go_wp2_with fail
      refine (same2_any bg bp _ _ _ _ HG3.out HP3.out (by omega) hg2b hp2b).mono ?_
      rintro e w4 ⟨rfl, hb4⟩
      have hmm := lcp_le g2.data.toList.reverse p2.data.toList.reverse
      rw [List.length_reverse, List.length_reverse, ← Lib.size_eq, ← Lib.size_eq] at hmm
      obtain ⟨hm1, hm2⟩ := hmm
      have HG4 := Lib.hid (HG3.out.below hb4 HG3.out.lt)
      have HP4 := Lib.hid (HP3.out.below hb4 HP3.out.lt)
      have HB4 := Lib.hid (HB3.out.below hb4 (Nat.lt_of_le_of_lt (Nat.le_of_lt lg) HG3.out.lt))
      have hb4' := below_tr hb3 hb4 hb3.size
      have hlp4 := HP4.out.lt
      clear hb4 hb3 HG3 HP3 HB3 cg cp fp
      have HMM := Lib.hid (show mOf g.data.toList x.data.toList = lcp g2.data.toList.reverse p2.data.toList.reverse by unfold mOf nOf; rw [HN.out, HG2D.out, HP2D.out])
      generalize lcp g2.data.toList.reverse p2.data.toList.reverse = M at *
      have cg := HG4.out.cell
      have cp := HP4.out.cell
      have fp := HP4.out.frozen
      have hp3d : putOf g.data.toList x.data.toList = (p2.extract 0 (p2.size - M)).data.toList := by
        unfold putOf
        rw [HMM.out, show nOf g.data.toList x.data.toList = N from HN.out, ← HP2D.out, Lib.extract_data, ← Lib.size_eq, ← HP2S.out]; rfl
      have HP3D := Lib.hid hp3d; clear hp3d
      have hlg : g.data.toList.length = g.size := (Lib.size_eq g).symm
      have hlx : x.data.toList.length = x.size := (Lib.size_eq x).symm
      have hcond : ((goneOf s.data.toList ⟨f, t, x⟩).length - nOf (goneOf s.data.toList ⟨f, t, x⟩) x.data.toList = mOf (goneOf s.data.toList ⟨f, t, x⟩) x.data.toList ∧ putOf (goneOf s.data.toList ⟨f, t, x⟩) x.data.toList = []) ↔ (g2.size = M ∧ p2.size = M) := by
        have hpl := putOf_len g.data.toList x.data.toList
        have hn' : nOf g.data.toList x.data.toList = N := HN.out
        rw [HGD.out, HMM.out, hn', hlg, HG2S.out, HP2S.out, List.eq_nil_iff_length_eq_zero, hpl, hn', HMM.out, hlx]
        have := HP2S.out
        omega
      have HCO := Lib.hid hcond
      have hzb := hb4'.size
      clear hcond hlg hlx
      by_cases hnil : g2.size = M ∧ p2.size = M
      · have HL : Hid (leanOf s.data.toList ⟨f, t, x⟩ = []) := by
          show _ = _
          unfold leanOf
          rw [show (⟨f, t, x⟩ : Ed).bs = x.data.toList from rfl, if_pos (HCO.out.2 hnil)]
        obtain ⟨n1, n2⟩ := hnil
        have q1 : ((g2.size : Int) == (M : Int)) = true := by simp; omega
        have q2 : (p2.extract 0 (p2.size - M)).toList = [] := by rw [Lib.toList_data, Lib.extract_data, n2]; simp
        have q3 : (p2.extract 0 (p2.size - M)).toList.isEmpty = true := by rw [q2]; rfl
        have q4 : (!(p2.extract 0 (p2.size - M)).toList.isEmpty) = false := by rw [q3]; rfl
        have N1 := Lib.hid n1; have N2 := Lib.hid n2
        clear n1 n2
        go_wp2
        refine bodyPost_ret (v := .slice A n c) (by simp [results, Try.results46, go_sem]) rfl ?_
        have hb5 : Below w.heap.size w (w4.setCell ⟨bp, 0, none⟩ (.string (p2.extract 0 (p2.size - M)))) := hb4'.setCell (p := ⟨bp, 0, none⟩) (by show w.heap.size ≤ bp; omega) _
        unfold LeanBack
        rw [HL.out]
        refine ⟨A, c, rfl, ?_, grown_of_below hb5 _, .inl rfl⟩
        have := own_below HO.out hb5
        simpa [edCells] using this
      · have HL : Hid (leanOf s.data.toList ⟨f, t, x⟩ = [⟨f + N, t - M, p2.extract 0 (p2.size - M)⟩]) := by
          show _ = _
          have hn' : nOf g.data.toList x.data.toList = N := HN.out
          unfold leanOf
          rw [show (⟨f, t, x⟩ : Ed).bs = x.data.toList from rfl, if_neg (fun h => hnil (HCO.out.1 h)), HGD.out, HMM.out, hn', HP3D.out, Lib.mk_data]
        have p1 : IntKind.i64.wrap (f + (N : Int)) = f + (N : Int) := IntWalk.i64_in _ (by omega)
        have p2' : IntKind.i64.wrap (t - (M : Int)) = t - (M : Int) := IntWalk.i64_in _ (by have := HGS.out; have := HG2S.out; omega)
        obtain ⟨i0, hi0, hz0, hz1, hz2⟩ := info_parts Try.info35
        have HI0 := Lib.hid hi0
        have HZ0 := Lib.hid hz0
        have HZ1 := Lib.hid hz1
        have HZ2 := Lib.hid hz2
        clear hi0 hz0 hz1 hz2
        have hb5 : Below w.heap.size w (w4.setCell ⟨bp, 0, none⟩ (.string (p2.extract 0 (p2.size - M)))) := hb4'.setCell (p := ⟨bp, 0, none⟩) (by show w.heap.size ≤ bp; omega) _
        have HP5 := Lib.hid (HP4.out.set (p2.extract 0 (p2.size - M)))
        have HB5 := Lib.hid (HB4.out.far (p := ⟨bp, 0, none⟩) (by show w.heap.size ≠ bp; omega) (.string (p2.extract 0 (p2.size - M))))
        have hpsz : (p2.extract 0 (p2.size - M)).size ≤ 1099511627776 := by rw [ByteArray.size_extract]; omega
        have hq : g2.size ≠ M ∨ (g2.size = M ∧ p2.size ≠ M) := by omega
        clear hnil HCO HP3D
        rcases hq with hq | ⟨hq, hq2⟩
        · have q1 : ((g2.size : Int) == (M : Int)) = false := by simp; omega
          have H5 := Lib.hid hb5; clear hb5 hq
          go_wp2_with fail
          have hb5 := H5.out
          have s5 := hb5.size
          have HO5 := Lib.hid (own_below HO.out hb5)
          have hbpl := HP5.out.lt
          generalize w4.setCell ⟨bp, 0, none⟩ (.string (p2.extract 0 (p2.size - M))) = w5 at *
          generalize p2.extract 0 (p2.size - M) = p3 at *
          have c0 := cell0_of HB5.out
          have c1 := cell1_of HB5.out
          have c2 := HP5.out.cell
          have hwl : w.heap.size < w5.heap.size := by omega
          have hne1 := Lib.hid (show (Value.slice A n c).ownBlock ≠ some w.heap.size from fun h => by have := (HO.out.lt _ h).2; omega)
          have hne2 := Lib.hid (show (Value.slice A n c).ownBlock ≠ some bp from fun h => by have := (HO.out.lt _ h).2; omega)
          clear cg cp fp
          go_region_held3 (fun w' => w'.cell? ⟨w.heap.size, 0, none⟩ = some (.int .i64 f) ∧ w'.cell? ⟨w.heap.size, 1, none⟩ = some (.int .i64 t) ∧ w'.cell? ⟨bp, 0, none⟩ = some (.string p3))
            (first
              | go_keep
              | (go_split_ands; refine ⟨?_, ?_, ?_⟩ <;> (rw [hb6.cell (by simp; omega)]; go_keep))
              | (go_split_ands; refine ⟨?_, ?_, ?_⟩
                 · (rw [hgrow7.cell_far _ (by have := hb6.size; simp at this ⊢; omega) (Ne.symm hne1.out)]; assumption)
                 · (rw [hgrow7.cell_far _ (by have := hb6.size; simp at this ⊢; omega) (Ne.symm hne1.out)]; assumption)
                 · (rw [hgrow7.cell_far _ (by have := hb6.size; simp at this ⊢; omega) (Ne.symm hne2.out)]; assumption)))
            (first
              | (go_at_call 44; refine (clone_any _ _ ?_).mono ?_; omega; rintro e' w6 ⟨rfl, hb6⟩)
              | (refine step_append_lies _ (by rfl) _ _ _ (by rfl) base 35 i0 _ 3 32 Try.underlying22 HI0.out HZ0.out HZ1.out HZ2.out rfl (by omega) (.slice A n c) n xs (by rfl) ((own_below HO5.out.drew hb6).alloc _) ⟨w6.heap.size, 0, none⟩ 1 1 [.int .i64 (f + (N : Int)), .int .i64 (t - (M : Int)), .string p3] (by rfl) (by rfl) (World.news_of_block (cs := #[.int .i64 (f + (N : Int)), .int .i64 (t - (M : Int)), .string p3]) (t := 35) (fr := (0, 0)) (heap_alloc_new w6 _)) (by simp [Value.oneCell']) (by omega) (by unfold maxLen; omega) (by omega) (by have := hb6.size; simp at this ⊢; omega) (w6.heap.size + 1) (by simp) ?_; intro gg cap7 w7 hown7 hgrow7 hat7 hlt7))
          go_wp2
          refine bodyPost_ret (v := .slice (some ⟨gg, 0, none⟩) (n + 1) cap7) (by simp [results, Try.results46, go_sem]) rfl ?_
          unfold LeanBack
          rw [HL.out]
          have hb6' : Below w.heap.size w w6 := below_tr hb5.drew hb6 (by simp; omega)
          have z6 := hb6'.size
          refine ⟨some ⟨gg, 0, none⟩, cap7, rfl, hown7, grown_tr (hb6'.alloc z6 _) hgrow7, ?_⟩
          rcases hat7 with h | h
          · exact .inl h.symm
          · exact .inr ⟨gg, rfl, by omega⟩
        · have q1 : ((g2.size : Int) == (M : Int)) = true := by simp; omega
          have q2 : (p2.extract 0 (p2.size - M)).toList.isEmpty = false := by
            rw [Lib.toList_data, List.isEmpty_eq_false_iff, ne_eq, List.eq_nil_iff_length_eq_zero, ← Lib.size_eq, ByteArray.size_extract]; omega
          have q3 : (!(p2.extract 0 (p2.size - M)).toList.isEmpty) = true := by rw [q2]; rfl
          have H5 := Lib.hid hb5; clear hb5 hq hq2
          go_wp2_with fail
          have hb5 := H5.out
          have s5 := hb5.size
          have HO5 := Lib.hid (own_below HO.out hb5)
          have hbpl := HP5.out.lt
          generalize w4.setCell ⟨bp, 0, none⟩ (.string (p2.extract 0 (p2.size - M))) = w5 at *
          generalize p2.extract 0 (p2.size - M) = p3 at *
          have c0 := cell0_of HB5.out
          have c1 := cell1_of HB5.out
          have c2 := HP5.out.cell
          have hwl : w.heap.size < w5.heap.size := by omega
          have hne1 := Lib.hid (show (Value.slice A n c).ownBlock ≠ some w.heap.size from fun h => by have := (HO.out.lt _ h).2; omega)
          have hne2 := Lib.hid (show (Value.slice A n c).ownBlock ≠ some bp from fun h => by have := (HO.out.lt _ h).2; omega)
          clear cg cp fp
          go_region_held3 (fun w' => w'.cell? ⟨w.heap.size, 0, none⟩ = some (.int .i64 f) ∧ w'.cell? ⟨w.heap.size, 1, none⟩ = some (.int .i64 t) ∧ w'.cell? ⟨bp, 0, none⟩ = some (.string p3))
            (first
              | go_keep
              | (go_split_ands; refine ⟨?_, ?_, ?_⟩ <;> (rw [hb6.cell (by simp; omega)]; go_keep))
              | (go_split_ands; refine ⟨?_, ?_, ?_⟩
                 · (rw [hgrow7.cell_far _ (by have := hb6.size; simp at this ⊢; omega) (Ne.symm hne1.out)]; assumption)
                 · (rw [hgrow7.cell_far _ (by have := hb6.size; simp at this ⊢; omega) (Ne.symm hne1.out)]; assumption)
                 · (rw [hgrow7.cell_far _ (by have := hb6.size; simp at this ⊢; omega) (Ne.symm hne2.out)]; assumption)))
            (first
              | (go_at_call 44; refine (clone_any _ _ ?_).mono ?_; omega; rintro e' w6 ⟨rfl, hb6⟩)
              | (refine step_append_lies _ (by rfl) _ _ _ (by rfl) base 35 i0 _ 3 32 Try.underlying22 HI0.out HZ0.out HZ1.out HZ2.out rfl (by omega) (.slice A n c) n xs (by rfl) ((own_below HO5.out.drew hb6).alloc _) ⟨w6.heap.size, 0, none⟩ 1 1 [.int .i64 (f + (N : Int)), .int .i64 (t - (M : Int)), .string p3] (by rfl) (by rfl) (World.news_of_block (cs := #[.int .i64 (f + (N : Int)), .int .i64 (t - (M : Int)), .string p3]) (t := 35) (fr := (0, 0)) (heap_alloc_new w6 _)) (by simp [Value.oneCell']) (by omega) (by unfold maxLen; omega) (by omega) (by have := hb6.size; simp at this ⊢; omega) (w6.heap.size + 1) (by simp) ?_; intro gg cap7 w7 hown7 hgrow7 hat7 hlt7))
          go_wp2
          refine bodyPost_ret (v := .slice (some ⟨gg, 0, none⟩) (n + 1) cap7) (by simp [results, Try.results46, go_sem]) rfl ?_
          unfold LeanBack
          rw [HL.out]
          have hb6' : Below w.heap.size w w6 := below_tr hb5.drew hb6 (by simp; omega)
          have z6 := hb6'.size
          refine ⟨some ⟨gg, 0, none⟩, cap7, rfl, hown7, grown_tr (hb6'.alloc z6 _) hgrow7, ?_⟩
          rcases hat7 with h | h
          · exact .inl h.symm
          · exact .inr ⟨gg, rfl, by omega⟩
end Go.Proofs.Ytpifobaejmfppaa
