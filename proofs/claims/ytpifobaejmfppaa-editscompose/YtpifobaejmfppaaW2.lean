/- The state of Compose over its steps. -/
import Derived.Test.YtpifobaejmfppaaW
namespace Go.Proofs.Ytpifobaejmfppaa
open Go.RowKit

theorem RdAt.same {w w' : World} {Br : Nat} {L : List Rn} {nl o : Nat} {A : Option Addr} {c : Nat} (h : RdAt w Br L nl o A c) (hb : Below w.heap.size w w') : RdAt w' Br L nl o A c :=
  ⟨(hb.block _ (lt_of_heap h.blk)).trans h.blk, h.len, h.cap, h.mx, h.rns.keep (fun k _cur _fz hk => (hb.block k (lt_of_heap hk)).trans hk), h.off, h.bd⟩

theorem RSt.same {base Bs Bo Bw Bk Bp Br : Nat} {s : ByteArray} {C R : List UInt8} {N : Nat} {row0 : Option Nat} {w0 w w' : World} (h : RSt base Bs Bo Bw Bk Bp Br s C R N row0 w0 w) (hb : Below w.heap.size w w') : RSt base Bs Bo Bw Bk Bp Br s C R N row0 w0 w' := by
  obtain ⟨out, n, wi, kept, A, c, L, nl, o, Ar, cr, h1, h2, h3, h4, h5, h6, h7, h8, h9, h10⟩ := h
  exact ⟨out, n, wi, kept, A, c, L, nl, o, Ar, cr, h1.same hb, (hb.block _ h2.lt).trans h2, h3.same hb, h4, h5, h6, h7, h8.trans (hb.mono h1.b3), h9.trans ((Kp.of_below hb _).more (by simp)) h10, h10⟩

theorem RSt.root {base Bs Bo Bw Bk Bp Br : Nat} {s : ByteArray} {C R : List UInt8} {N : Nat} {row0 : Option Nat} {w0 w : World} (h : RSt base Bs Bo Bw Bk Bp Br s C R N row0 w0 w) : ∃ row, (∀ g, row = some g → g < w.heap.size) ∧ RSt base Bs Bo Bw Bk Bp Br s C R N row w w := by
  obtain ⟨out, n, wi, kept, A, c, L, nl, o, Ar, cr, h1, h2, h3, h4, h5, h6, h7, h8, h9, h10⟩ := h
  exact ⟨(Value.slice A n c).ownBlock, fun g hg => (h1.own.lt g hg).2, out, n, wi, kept, A, c, L, nl, o, Ar, cr, h1, h2, h3, h4, h5, h6, h7, Below.refl _ _, Kp.refl _ _ _, .inl rfl⟩

theorem RSt.below {base Bs Bo Bw Bk Bp Br : Nat} {s : ByteArray} {C R : List UInt8} {N : Nat} {row0 : Option Nat} {w0 w : World} (h : RSt base Bs Bo Bw Bk Bp Br s C R N row0 w0 w) : Below base w0 w ∧ w0.heap.size ≤ w.heap.size ∧ base ≤ w.heap.size := by
  obtain ⟨out, n, wi, kept, A, c, L, nl, o, Ar, cr, h1, h2, h3, h4, h5, h6, h7, h8, h9, h10⟩ := h
  exact ⟨h8, h9.1, h1.b3⟩

theorem RSt.lts {base Bs Bo Bw Bk Bp Br : Nat} {s : ByteArray} {C R : List UInt8} {N : Nat} {row0 : Option Nat} {w0 w : World} (h : RSt base Bs Bo Bw Bk Bp Br s C R N row0 w0 w) : Bo < w.heap.size ∧ Bw < w.heap.size ∧ Bk < w.heap.size ∧ Br < w.heap.size ∧ Bp < w.heap.size ∧ Bs < w.heap.size := by
  obtain ⟨out, n, wi, kept, A, c, L, nl, o, Ar, cr, h1, h2, h3, h4, h5, h6, h7, h8, h9, h10⟩ := h
  obtain ⟨pp, vv, hb', _⟩ := isb_block h1.hw
  exact ⟨h1.ho.lt, lt_of_heap hb', h1.hk.lt, lt_of_heap h3.blk, h2.lt, h1.hs.lt⟩

theorem RSt.rootAlloc {base Bs Bo Bw Bk Bp Br : Nat} {s : ByteArray} {C R : List UInt8} {N : Nat} {row0 : Option Nat} {w0 w : World} (h : RSt base Bs Bo Bw Bk Bp Br s C R N row0 w0 w) (x : Obj) : ∃ row, some w.heap.size ≠ row ∧ RSt base Bs Bo Bw Bk Bp Br s C R N row (w.alloc x) (w.alloc x) := by
  have hb : Below w.heap.size w (w.alloc x) := (Below.refl _ _).alloc (Nat.le_refl _) _
  obtain ⟨out, n, wi, kept, A, c, L, nl, o, Ar, cr, h1, h2, h3, h4, h5, h6, h7, h8, h9, h10⟩ := h
  exact ⟨(Value.slice A n c).ownBlock, fun e => by have := (h1.own.lt _ e.symm).2; omega, out, n, wi, kept, A, c, L, nl, o, Ar, cr, h1.same hb, (hb.block _ h2.lt).trans h2, h3.same hb, h4, h5, h6, h7, Below.refl _ _, Kp.refl _ _ _, .inl rfl⟩

theorem RSt.vals {base Bs Bo Bw Bk Bp Br : Nat} {s : ByteArray} {C R : List UInt8} {N : Nat} {row0 : Option Nat} {w0 w : World} (h : RSt base Bs Bo Bw Bk Bp Br s C R N row0 w0 w) : w.cell? ⟨Bs, 0, none⟩ = some (.string s) ∧ w.cell? ⟨Bp, 0, none⟩ = some (.func (.func 47) #[] #[.pointer (some ⟨Bo, 0, none⟩), .pointer (some ⟨Bs, 0, none⟩), .pointer (some ⟨Bk, 0, none⟩), .pointer (some ⟨Bw, 0, none⟩)]) := by
  obtain ⟨out, n, wi, kept, A, c, L, nl, o, Ar, cr, h1, h2, h3, h4, h5, h6, h7, h8, h9, h10⟩ := h
  exact ⟨h1.hs.cell, h2.cell⟩

/-- A block of an edit's own cells stands. -/
theorem RSt.box {base Bs Bo Bw Bk Bp Br : Nat} {s : ByteArray} {C R : List UInt8} {N : Nat} {row0 : Option Nat} {w0 w : World} (h : RSt base Bs Bo Bw Bk Bp Br s C R N row0 w0 w) {k : Nat} {f t : Int} {x : ByteArray} (hk : w0.heap[k]? = some (.cells #[.int .i64 f, .int .i64 t, .string x] 35 (0, 0)))
    (hx : k ∉ [Bo, Bw, Bk, Br]) (hr : some k ≠ row0) : w.heap[k]? = some (.cells #[.int .i64 f, .int .i64 t, .string x] 35 (0, 0)) := by
  obtain ⟨out, n, wi, kept, A, c, L, nl, o, Ar, cr, h1, h2, h3, h4, h5, h6, h7, h8, h9, h10⟩ := h
  exact h9.2 k _ hk hx hr (fun cc fz e => by injection e with _ e2; exact absurd e2 (by decide))

theorem RSt.write {base Bs Bo Bw Bk Bp Br : Nat} {s : ByteArray} {C R : List UInt8} {N : Nat} {row0 : Option Nat} {w0 w : World} (h : RSt base Bs Bo Bw Bk Bp Br s C R N row0 w0 w) (x : ByteArray) (hx : C.length + x.size ≤ 1099511627776) :
    Calls Try.prog 42 #[.pointer (some ⟨Bw, 0, none⟩), .string x] w fun e w' => e = .returned (.tuple #[.int .i64 x.size, .nilIface]) ∧ RSt base Bs Bo Bw Bk Bp Br s (C ++ x.data.toList) R N row0 w0 w' := by
  obtain ⟨out, n, wi, kept, A, c, L, nl, o, Ar, cr, h1, h2, h3, h4, h5, h6, h7, h8, h9, h10⟩ := h
  have hwi : wi.length ≤ C.length := by rw [← h4.ap, List.length_append]; omega
  refine (Try.Builder_WriteString_k base Bw _ x _ h1.hw (by rw [Lib.byteCells_length]; omega) h1.b3).mono ?_
  rintro e w2 ⟨rfl, hw2, hb2, ho2⟩
  obtain ⟨p0, v0, hblk, hbB⟩ := isb_block h1.hw
  have n1 := one_ne_two h2 hblk
  have kp : ∀ row, Kp [Bw] row w w2 := fun row => Kp.of_others ho2 hb2.size row
  have h3' : RdAt w2 Br L nl o Ar cr := by
    refine ⟨(kp none).2 Br _ h3.blk ?_ (by simp) (fun cc fz e => by injection e with _ e2; exact absurd e2 (by decide)), h3.len, h3.cap, h3.mx, h3.rns.keep (fun k cur fz hk => (kp none).2 k _ hk ?_ (by simp) (fun cc fz e => by injection e with _ e2; exact absurd e2 (by decide))), h3.off, h3.bd⟩
    · simp; rintro rfl; have := h3.blk; rw [hblk] at this; injection this with this; injection this with _ e2; exact absurd e2 (by decide)
    · simp; rintro rfl; rw [hblk] at hk; injection hk with hk; injection hk with _ e2; exact absurd e2 (by decide)
  exact ⟨rfl, out, n, wi ++ x.data.toList, kept, A, c, L, nl, o, Ar, cr, h1.kp none (kp _) (.inl rfl) (kp _) (.inr (by rw [Lib.byteCells_append]; exact hw2)), (kp none).one h2 (by simpa using n1) (by simp) (by decide), h3', h4.more _, h5, h6, h7, h8.trans hb2, h9.trans ((kp _).more (by simp)) h10, h10⟩

/-- What Compose answers of right edits. -/
def CoBack (s : ByteArray) (a b : List Ed) (w : World) (e : Ending) (w' : World) : Prop :=
  ∃ L, EdsBack w.heap.size L 0 w e w' ∧ rightB 0 s.size L = true ∧ appl s.data.toList 0 L = appl (appl s.data.toList 0 a) 0 b ∧ ∀ e ∈ L, LeanOK s.data.toList e

theorem RSt.last {base Bs Bo Bw Bk Bp Br : Nat} {s : ByteArray} {C R : List UInt8} {N : Nat} {row0 : Option Nat} {w0 w : World} (h : RSt base Bs Bo Bw Bk Bp Br s C R N row0 w0 w) (hC : C.length ≤ 1099511627776) (hs : s.size ≤ 1099511627776) (hN : N ≤ 1048576) :
    Calls Try.prog 47 #[.int .i64 s.size, .pointer (some ⟨Bo, 0, none⟩), .pointer (some ⟨Bs, 0, none⟩), .pointer (some ⟨Bk, 0, none⟩), .pointer (some ⟨Bw, 0, none⟩)] w fun e w' => e = .returned (.tuple #[]) ∧
      ∃ L A c, One w' Bo 22 (.slice A L.length c) ∧ w'.ownsRow base 35 3 (.slice A L.length c) L.length (edCells L) ∧ Below base w0 w' ∧ rightB 0 s.size L = true ∧ appl s.data.toList 0 L = C ∧ ∀ e ∈ L, LeanOK s.data.toList e := by
  obtain ⟨out, n, wi, kept, A, c, L, nl, o, Ar, cr, h1, h2, h3, h4, h5, h6, h7, h8, h9, h10⟩ := h
  have hwi : wi.length ≤ C.length := by rw [← h4.ap, List.length_append]; omega
  have hsz : s.data.toList.length = s.size := (Lib.size_eq s).symm
  have hk1 := h4.k1
  obtain ⟨q1, q2, q3⟩ := h4.put s.size (by omega) (by omega)
  refine (putDown_any base Bs Bo Bw Bk s out n wi kept s.size A c w h1 h4.k0 (by omega) (by omega) hs (by omega) (by omega)).mono ?_
  rintro e w2 ⟨nn, A2, c2, rfl, hc2, hb2, kp2, hr2⟩
  have hn := hc2.hn
  refine ⟨rfl, _, A2, c2, ?_, ?_, h8.trans hb2, q1, ?_, q3⟩
  · rw [hn]; exact hc2.ho
  · rw [hn]; exact hc2.own
  · rw [Int.toNat_natCast, List.take_of_length_le (by omega)] at q2; exact q2

theorem rl_bd (s : ByteArray) : ∀ (l : List Ed) (a : Nat), a ≤ s.size → rightB a s.size l = true → ∀ r ∈ rl s a l, r.x.size ≤ s.size + tot l ∧ 0 ≤ r.f ∧ r.f ≤ s.size
  | [], a, ha, _, r, hr => by
    simp only [rl, List.mem_singleton] at hr
    subst hr
    have hx : (s.extract a s.size).size = s.size - a := by rw [ByteArray.size_extract]; omega
    refine ⟨?_, ?_, ?_⟩
    · show (s.extract a s.size).size ≤ _; omega
    · show (0 : Int) ≤ (a : Int); omega
    · show (a : Int) ≤ _; omega
  | e :: l, a, ha, h, r, hr => by
    rw [rightB_cons, Bool.and_eq_true, Ed.okB_iff] at h
    obtain ⟨⟨h1, h2, h3⟩, h4⟩ := h
    have hx : (s.extract a e.f.toNat).size = e.f.toNat - a := by rw [ByteArray.size_extract]; omega
    simp only [rl, List.mem_cons] at hr
    simp only [tot]
    rcases hr with hr | hr | hr
    · subst hr
      refine ⟨?_, ?_, ?_⟩
      · show (s.extract a e.f.toNat).size ≤ _; omega
      · show (0 : Int) ≤ (a : Int); omega
      · show (a : Int) ≤ _; omega
    · subst hr
      refine ⟨?_, ?_, ?_⟩
      · show e.s.size ≤ _; omega
      · exact Int.le_refl _
      · show (0 : Int) ≤ _; omega
    · have := rl_bd s l e.t.toNat (by omega) (by rw [Int.toNat_of_nonneg (by omega)]; exact h4) r hr
      omega

theorem cutL_zero : ∀ (l : List Rn), rem_ l 0 = rnText l
  | [] => rfl
  | r :: t => by simp [rem_, rnText]

theorem rst_start {s : ByteArray} {a : List Ed} {base Bs Bo Bw Bk Bp g c N : Nat} {T : List UInt8} {w4 w5 : World} (hs : One w4 Bs 9 (.string s)) (ho : One w4 Bo 22 (.slice none 0 0)) (hw : w4.heap[Bw]? = some (.cells #[.pointer none, .slice none 0 0] 70 (0, 0))) (hk : One w4 Bk 3 (.int .i64 0)) (hp : One w4 Bp 71 (pdVal Bs Bo Bw Bk))
    (b1 : base ≤ Bo) (b2 : base ≤ Bk) (b3 : base ≤ Bw) (b4 : base ≤ w4.heap.size) (hown : w5.ownsRow w4.heap.size 80 3 (.slice (some ⟨g, 0, none⟩) (rl s 0 a).length c) (rl s 0 a).length (rnCells (rl s 0 a))) (hb : Below w4.heap.size w4 w5)
    (hc : (rl s 0 a).length ≤ c) (hc2 : c ≤ 9223372036854775807) (hR : rightB 0 s.size a = true) (hS : s.size + tot a ≤ 1099511627776) (hT : rnText (rl s 0 a) = T) (hN : (rl s 0 a).length ≤ N) :
    RSt base Bs Bo Bw Bk Bp w5.heap.size s [] T N none (w5.alloc (.cells #[.slice (some ⟨g, 0, none⟩) (rl s 0 a).length c, .int .i64 0] 85)) (w5.alloc (.cells #[.slice (some ⟨g, 0, none⟩) (rl s 0 a).length c, .int .i64 0] 85)) := by
  have hal : Below w5.heap.size w5 (w5.alloc (.cells #[.slice (some ⟨g, 0, none⟩) (rl s 0 a).length c, .int .i64 0] 85)) := (Below.refl _ _).alloc (Nat.le_refl _) _
  have hcs : CSt base Bs Bo Bw Bk s [] 0 [] 0 none 0 w5 := ⟨(hb.block _ hs.lt).trans hs, (hb.block _ ho.lt).trans ho, (hb.block _ hk.lt).trans hk, Lib.IsBuilderF.of (.inl ⟨b3, _, (hb.block _ (lt_of_heap hw)).trans hw, World.ownsRow_nil _ _ _ _, by simp [Value.ownBlock]⟩), World.ownsRow_nil _ _ _ _, rfl, b1, b2, Nat.le_trans b4 hb.size⟩
  have hne : rl s 0 a ≠ [] := by intro h; have := rl_len s a 0; rw [h] at this; simp at this
  have hrd : RdAt (w5.alloc (.cells #[.slice (some ⟨g, 0, none⟩) (rl s 0 a).length c, .int .i64 0] 85)) w5.heap.size (rl s 0 a) (rl s 0 a).length 0 (some ⟨g, 0, none⟩) c := by
    refine ⟨heap_alloc_new _ _, rfl, hc, hc2, ?_, fun _ _ _ => Nat.zero_le _, fun r hr => ?_⟩
    · intro _
      have hown' := own_below hown hal
      rcases hown'.2 with ⟨h0, _⟩ | ⟨g', cap, cur, hv, hbg, hg, hr⟩
      · simp at h0
      · have hgg : g' = g := by injection hv with hv; simp at hv; exact hv.symm
        subst hgg
        refine ⟨g', 0, cur, (0, 0), rfl, hg, fun i r hi => ?_⟩
        obtain ⟨q0, q1, q2⟩ := rnCells_get _ _ _ hi
        have hcc := hown'.cells (g := g') rfl
        have e0 := hcc _ _ q0
        have e1 := hcc _ _ q1
        have e2 := hcc _ _ q2
        rw [add_none, Lib.cell_of_heap hg] at e0 e1 e2
        rw [Nat.zero_add]
        exact ⟨e0, e1, e2⟩
    · obtain ⟨x1, x2, x3⟩ := rl_bd s a 0 (Nat.zero_le _) hR r hr
      omega
  refine ⟨[], 0, [], 0, none, 0, rl s 0 a, (rl s 0 a).length, 0, some ⟨g, 0, none⟩, c, hcs.same hal, (hal.block _ (lt_of_heap ((hb.block _ hp.lt).trans hp))).trans ((hb.block _ hp.lt).trans hp), hrd, ⟨Int.le_refl _, by omega, rfl, by simp [appl], by simp⟩, ?_, (cutL_zero _).trans hT, by omega, Below.refl _ _, Kp.refl _ _ _, .inl rfl⟩
  exact cut0 (rl_ok s a 0 (Nat.zero_le _) hR)
end Go.Proofs.Ytpifobaejmfppaa
