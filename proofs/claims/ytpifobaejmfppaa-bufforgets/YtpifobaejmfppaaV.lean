/- The reader of runs, with gather. -/
import Derived.Test.YtpifobaejmfppaaU
import Derived.WalkLawsBesides
namespace Go.Proofs.Ytpifobaejmfppaa
open Go.RowKit

theorem gather_any (base Bs Bo Bw Bk Bp : Nat) (s x : ByteArray) (kb : Bool) (f : Int) (out : List Ed) (n : Nat) (wi : List UInt8) (kept : Int) (A : Option Addr) (c : Nat) (w : World) (h : CSt base Bs Bo Bw Bk s out n wi kept A c w) (hp : One w Bp 71 (pdVal Bs Bo Bw Bk))
    (h1 : 0 ≤ kept) (h2 : kb = true → kept ≤ f ∧ f + x.size ≤ s.size) (h4 : s.size ≤ 1099511627776) (h5 : wi.length + x.size ≤ 1099511627776) (h6 : n ≤ 1048576) :
    Calls Try.prog 49 #[.agg #[.string x, .bool kb, .int .i64 f], .pointer (some ⟨Bw, 0, none⟩), .pointer (some ⟨Bp, 0, none⟩), .pointer (some ⟨Bk, 0, none⟩)] w fun e w' =>
      ∃ out' wi' kept', GaBack base Bs Bo Bw Bk Bp s out' wi' kept' (Value.slice A n c).ownBlock w e w' ∧
        ((kb = false ∧ out' = out ∧ wi' = wi ++ x.data.toList ∧ kept' = kept) ∨ (kb = true ∧ out' = out ++ leanOf s.data.toList ⟨kept, f, ⟨wi.toArray⟩⟩ ∧ wi' = [] ∧ kept' = f + x.size)) := by
  cases kb with
  | false => exact (gather_no base Bs Bo Bw Bk Bp s x f out n wi kept A c w h hp h5).mono fun e w' hh => ⟨_, _, _, hh, .inl ⟨rfl, rfl, rfl, rfl⟩⟩
  | true =>
    obtain ⟨g1, g2⟩ := h2 rfl
    exact (gather_yes base Bs Bo Bw Bk Bp s x f out n wi kept A c w h hp h1 g1 g2 h4 (by omega) h6).mono fun e w' hh => ⟨_, _, _, hh, .inr ⟨rfl, rfl, rfl, rfl⟩⟩

/-- What stands behind the hand's call, or without one. -/
def HandRel (base Bs Bo Bw Bk Bp Br : Nat) (s : ByteArray) (C1 R1 : List UInt8) (k n nl : Nat) (r : Rn) (t : List Rn) (o g oo cr : Nat) (rowA : Option Nat) (wr wx : World) : Prop :=
  ∃ out' n' wi' kept' A' c', CSt base Bs Bo Bw Bk s out' n' wi' kept' A' c' wx ∧ One wx Bp 71 (pdVal Bs Bo Bw Bk) ∧ wx.heap[Br]? = some (.cells #[.slice (some ⟨g, oo, none⟩) nl cr, .int .i64 o] 85 (0, 0)) ∧ wx.heap[wr.heap.size]? = some (.cells #[.string r.x, .bool r.kept, .int .i64 r.f] 80 (0, 0)) ∧ RnsS wx (some ⟨g, oo, none⟩) (r :: t) ∧
    GS s.data.toList (C1 ++ R1.take k) out' wi' kept' ∧ rnOK s.data.toList kept' (r.cut (o + k) :: t) ∧ (o + k = r.x.size → rnOK s.data.toList kept' t) ∧ n' ≤ n + 1 ∧ Below base wr wx ∧ Kp [Bo, Bw, Bk] rowA wr wx ∧ RowNext wr rowA (Value.slice A' n' c').ownBlock

theorem rn_end {S : List UInt8} {kept : Int} {r : Rn} {t : List Rn} {o : Nat} (h : rnOK S kept (r.cut o :: t)) (ho : o ≤ r.x.size) : o = r.x.size → rnOK S kept t := by
  intro he
  cases hk : r.kept with
  | true =>
    obtain ⟨a1, _, _, _, _, _, a7⟩ := rn_step_ok (k := 0) h (by omega) hk
    exact rnOK_weak (by omega) (a7 (by omega))
  | false => exact (rn_step_no (o' := 0) h hk).2

theorem rns_alloc {wr : World} {A : Option Addr} {L : List Rn} (h : RnsS wr A L) (ob : Obj) : RnsS (wr.alloc ob) A L :=
  h.keep fun k _cur _fz hk => (Below.heap_alloc wr ob k (lt_of_heap hk)).trans hk

theorem handrel_none {base Bs Bo Bw Bk Bp Br : Nat} {s : ByteArray} {C1 R1 : List UInt8} {n nl : Nat} {r : Rn} {t : List Rn} {o g oo cr nq : Nat} {wr : World} {out : List Ed} {wi : List UInt8} {kept : Int} {A : Option Addr} {c : Nat}
    (h1 : CSt base Bs Bo Bw Bk s out n wi kept A c (wr.alloc (.cells #[.string r.x, .bool r.kept, .int .i64 r.f] 80))) (h2 : One (wr.alloc (.cells #[.string r.x, .bool r.kept, .int .i64 r.f] 80)) Bp 71 (pdVal Bs Bo Bw Bk)) (h3 : (wr.alloc (.cells #[.string r.x, .bool r.kept, .int .i64 r.f] 80)).heap[Br]? = some (.cells #[.slice (some ⟨g, oo, none⟩) nl cr, .int .i64 o] 85 (0, 0)))
    (h4 : (wr.alloc (.cells #[.string r.x, .bool r.kept, .int .i64 r.f] 80)).heap[wr.heap.size]? = some (.cells #[.string r.x, .bool r.kept, .int .i64 r.f] 80 (0, 0))) (h5 : RnsS wr (some ⟨g, oo, none⟩) (r :: t)) (h6 : GS s.data.toList C1 out wi kept) (h7 : rnOK s.data.toList kept (cutL (r :: t) o)) (ho : o ≤ r.x.size) (hb : base ≤ wr.heap.size) :
    HandRel base Bs Bo Bw Bk Bp Br s C1 R1 0 n nl r t o g oo cr (Value.slice A n c).ownBlock wr ((wr.alloc (.cells #[.string r.x, .bool r.kept, .int .i64 r.f] 80)).drewN nq) :=
  ⟨out, n, wi, kept, A, c, ⟨h1.hs, h1.ho, h1.hk, h1.hw, h1.own, h1.hn, h1.b1, h1.b2, h1.b3⟩, h2, h3, h4, rns_alloc h5 _, by rw [List.take_zero, List.append_nil]; exact h6, h7, fun he => rn_end h7 ho (by omega), by omega, below_drewN ((Below.refl _ _).alloc hb _) _, ((Kp.refl _ _ _).alloc _).drewN _, .inl rfl⟩

theorem handrel_some {base Bs Bo Bw Bk Bp Br : Nat} {s : ByteArray} {C1 R1 : List UInt8} {k n nl : Nat} {r : Rn} {t : List Rn} {o g oo cr nq : Nat} {wr w5 : World} {out out' : List Ed} {n' : Nat} {wi wi' : List UInt8} {kept kept' : Int} {A A' : Option Addr} {c c' : Nat}
    (h1 : CSt base Bs Bo Bw Bk s out' n' wi' kept' A' c' w5) (h2 : One w5 Bp 71 (pdVal Bs Bo Bw Bk)) (h3 : w5.heap[Br]? = some (.cells #[.slice (some ⟨g, oo, none⟩) nl cr, .int .i64 o] 85 (0, 0))) (h4 : w5.heap[wr.heap.size]? = some (.cells #[.string r.x, .bool r.kept, .int .i64 r.f] 80 (0, 0)))
    (h5 : RnsS wr (some ⟨g, oo, none⟩) (r :: t)) (h6 : GS s.data.toList C1 out wi kept) (h7 : rnOK s.data.toList kept (cutL (r :: t) o)) (hrem : rem_ (r :: t) o = R1) (hko : o + k ≤ r.x.size) (hxs : (r.x.extract o (o + k)).size = k)
    (hcase : (r.kept = false ∧ out' = out ∧ wi' = wi ++ (r.x.extract o (o + k)).data.toList ∧ kept' = kept) ∨ (r.kept = true ∧ out' = out ++ leanOf s.data.toList ⟨kept, r.f + (o : Int), ⟨wi.toArray⟩⟩ ∧ wi' = [] ∧ kept' = r.f + (o : Int) + ((r.x.extract o (o + k)).size : Int)))
    (hb5 : Below base (((wr.alloc (.cells #[.string r.x, .bool r.kept, .int .i64 r.f] 80)).drewN nq).drew) w5) (hk5 : Kp [Bo, Bw, Bk] (Value.slice A n c).ownBlock (((wr.alloc (.cells #[.string r.x, .bool r.kept, .int .i64 r.f] 80)).drewN nq).drew) w5) (hr5 : RowNext (((wr.alloc (.cells #[.string r.x, .bool r.kept, .int .i64 r.f] 80)).drewN nq).drew) (Value.slice A n c).ownBlock (Value.slice A' n' c').ownBlock) (hb : base ≤ wr.heap.size) (hn : out.length = n) (hn' : out'.length = n') (hown : wr.ownsRow base 35 3 (.slice A n c) n (edCells out)) (hwo : One wr Bo 22 (.slice A n c)) (hwk : One wr Bk 3 (.int .i64 kept)) (hwb : ∃ p v, wr.heap[Bw]? = some (.cells #[p, v] 70 (0, 0))) :
    HandRel base Bs Bo Bw Bk Bp Br s C1 R1 k n nl r t o g oo cr (Value.slice A n c).ownBlock wr w5 := by
  obtain ⟨t1, t2, t3⟩ := rem_step r t o k hko
  have kal : Kp [Bo, Bw, Bk] (Value.slice A n c).ownBlock wr (((wr.alloc (.cells #[.string r.x, .bool r.kept, .int .i64 r.f] 80)).drewN nq).drew) := (((Kp.refl _ _ _).alloc _).drewN _).drew
  have kk := kal.trans hk5 (.inl rfl)
  obtain ⟨pp, vv, hbw⟩ := hwb
  have hrs : RnsS w5 (some ⟨g, oo, none⟩) (r :: t) := h5.keep fun q cur fz hq => kk.2 q _ hq (by
    simp only [List.mem_cons, List.not_mem_nil, or_false, not_or]
    refine ⟨?_, ?_, ?_⟩
    · rintro rfl; unfold One at hwo; rw [hwo] at hq; injection hq with hq; injection hq with _ h2; exact absurd h2 (by decide)
    · rintro rfl; rw [hbw] at hq; injection hq with hq; injection hq with _ h2; exact absurd h2 (by decide)
    · rintro rfl; unfold One at hwk; rw [hwk] at hq; injection hq with hq; injection hq with _ h2; exact absurd h2 (by decide)) (by
    intro e
    rcases hown.2 with ⟨hv, _⟩ | ⟨g', cap, cu, hv, _, hg', _⟩
    · rw [hv] at e; simp [Value.ownBlock] at e
    · rw [hv] at e
      have : q = g' := by simpa [Value.ownBlock] using e
      subst this
      rw [hg'] at hq; injection hq with hq; injection hq with _ h2; exact absurd h2 (by decide)) (fun c f e => by injection e with _ e2; exact absurd e2 (by decide))
  have hbb : Below base wr w5 := ((below_drewN ((Below.refl base wr).alloc hb _) nq).drew).trans hb5
  have hrr : RowNext wr (Value.slice A n c).ownBlock (Value.slice A' n' c').ownBlock := (RowNext.refl wr _).trans hr5 (by simp)
  have hll := leanOf_len s.data.toList ⟨kept, r.f + (o : Int), ⟨wi.toArray⟩⟩
  have tk : R1.take k = (r.part o k).bs := by rw [← hrem]; exact t1
  unfold HandRel
  rw [tk]
  rcases hcase with ⟨hk, e1, e2, e3⟩ | ⟨hk, e1, e2, e3⟩
  · subst e1 e2 e3
    obtain ⟨z1, z2⟩ := rn_step_no (o' := o + k) h7 hk
    exact ⟨out', n', _, kept', A', c', h1, h2, h3, h4, hrs, h6.more _, z1, fun _ => z2, by omega, hbb, kk, hrr⟩
  · subst e1 e2 e3
    obtain ⟨a1, a2, a3, a4, a5, a6, a7⟩ := rn_step_ok (k := k) h7 hko hk
    have hg := h6.keepRun (r.part o k) a1 (by show r.f + (o : Int) + ((r.x.extract o (o + k)).size : Int) ≤ _; rw [hxs]; exact a3) (by rw [a5]; exact a4)
    have hkk : (r.part o k).f + ((r.part o k).x.size : Int) = r.f + (o : Int) + ((r.x.extract o (o + k)).size : Int) := rfl
    rw [hkk] at hg
    rw [List.length_append] at hn'
    refine ⟨_, n', [], _, A', c', h1, h2, h3, h4, hrs, hg, ?_, ?_, by omega, hbb, kk, hrr⟩
    · rw [hxs]; exact a6
    · rw [hxs]; exact a7

theorem CSt.other {base Bs Bo Bw Bk Br : Nat} {s : ByteArray} {out : List Ed} {n : Nat} {wi : List UInt8} {kept : Int} {A : Option Addr} {c : Nat} {w w' : World} {p q : Value} (h : CSt base Bs Bo Bw Bk s out n wi kept A c w) (hbr : w.heap[Br]? = some (.cells #[p, q] 85 (0, 0))) (hag : ∀ k, k ≠ Br → w'.heap[k]? = w.heap[k]?) (hsz : w'.heap.size = w.heap.size) : CSt base Bs Bo Bw Bk s out n wi kept A c w' := by
  have hne : ∀ (k : Nat) (cc : Array Value) (tt : TypeId) (fz : Nat × Nat), w.heap[k]? = some (.cells cc tt fz) → tt ≠ 85 → w'.heap[k]? = some (.cells cc tt fz) := fun k cc tt fz hk ht => by
    refine (hag k ?_).trans hk
    rintro rfl
    rw [hbr] at hk; injection hk with hk; injection hk with _ h2; exact ht h2.symm
  refine ⟨hne _ _ _ _ h.hs (by decide), hne _ _ _ _ h.ho (by decide), hne _ _ _ _ h.hk (by decide), isb_keep h.hw (fun k o hk ⟨cc, tt, fz, he, ht⟩ => ?_), ⟨h.own.1, ?_⟩, h.hn, h.b1, h.b2, by rw [hsz]; exact h.b3⟩
  · subst he
    exact hne _ _ _ _ hk (by rcases ht with ht | ht <;> rw [ht] <;> decide)
  · rcases h.own.2 with hn | ⟨g, cap, cur, hv, hb, hgg, rest⟩
    · exact .inl hn
    · exact .inr ⟨g, cap, cur, hv, hb, hne _ _ _ _ hgg (by decide), rest⟩

theorem set3_other (wc : World) (Br k : Nat) (a b c : Value) (q : Nat) (hk : k ≠ Br) : ((((wc.setCell ⟨Br, 1, none⟩ a).drewN q).setCell ⟨Br, 0, none⟩ b).setCell ⟨Br, 1, none⟩ c).heap[k]? = wc.heap[k]? :=
  (Below.heap_setCell _ ⟨Br, 1, none⟩ c k hk).trans ((Below.heap_setCell _ ⟨Br, 0, none⟩ b k hk).trans (Below.heap_setCell wc ⟨Br, 1, none⟩ a k hk))
theorem set3_size (wc : World) (Br : Nat) (a b c : Value) (q : Nat) : ((((wc.setCell ⟨Br, 1, none⟩ a).drewN q).setCell ⟨Br, 0, none⟩ b).setCell ⟨Br, 1, none⟩ c).heap.size = wc.heap.size := by
  simp [World.setCell, World.drewN]
theorem set3_blk (wc : World) (Br : Nat) (a b c : Value) (q : Nat) {x y : Value} {T : TypeId} (h : wc.heap[Br]? = some (.cells #[x, y] T (0, 0))) : ((((wc.setCell ⟨Br, 1, none⟩ a).drewN q).setCell ⟨Br, 0, none⟩ b).setCell ⟨Br, 1, none⟩ c).heap[Br]? = some (.cells #[b, c] T (0, 0)) := by
  simp [World.setCell, World.drewN, Array.getElem?_modify, h]
theorem set1_blk (wc : World) (Br : Nat) (a : Value) (q : Nat) {x y : Value} {T : TypeId} (h : wc.heap[Br]? = some (.cells #[x, y] T (0, 0))) : ((wc.setCell ⟨Br, 1, none⟩ a).drewN q).heap[Br]? = some (.cells #[x, a] T (0, 0)) := by
  simp [World.setCell, World.drewN, Array.getElem?_modify, h]
theorem cut0 {S : List UInt8} {kept : Int} {t : List Rn} (h : rnOK S kept t) : rnOK S kept (cutL t 0) := by
  cases t with
  | nil => trivial
  | cons r t =>
    have e : r.cut 0 = r := by
      have : r.x.extract 0 r.x.size = r.x := by
        rw [← Lib.mk_data (r.x.extract 0 r.x.size), ext_to_end, List.drop_zero, Lib.mk_data]
      show (⟨r.x.extract 0 r.x.size, r.kept, r.f + ((0 : Nat) : Int)⟩ : Rn) = r
      rw [this]; simp
    show rnOK S kept (r.cut 0 :: t)
    rw [e]; exact h

theorem read_fin {base Bs Bo Bw Bk Bp Br : Nat} {s : ByteArray} {C R : List UInt8} {N m0 m k : Nat} {row0 rowA : Option Nat} {w0 wr wc wf : World} {out' : List Ed} {n' : Nat} {wi' : List UInt8} {kept' : Int} {A' : Option Addr} {c' : Nat} {L' : List Rn} {nl' o' : Nat} {Ar' : Option Addr} {cr' : Nat} {p q : Value}
    (hm : m ≤ m0) (hk : k ≤ m) (h1 : CSt base Bs Bo Bw Bk s out' n' wi' kept' A' c' wc) (h2 : One wc Bp 71 (pdVal Bs Bo Bw Bk)) (hbr : wc.heap[Br]? = some (.cells #[p, q] 85 (0, 0))) (hag : ∀ k, k ≠ Br → wf.heap[k]? = wc.heap[k]?) (hsz : wf.heap.size = wc.heap.size) (hblk : wf.heap[Br]? = some (.cells #[.slice Ar' nl' cr', .int .i64 o'] 85 (0, 0)))
    (hlen : L'.length = nl') (hcap : nl' ≤ cr') (hmx : cr' ≤ 9223372036854775807) (hrs : RnsS wc Ar' L') (hoff : ∀ r t, L' = r :: t → o' ≤ r.x.size) (hbd : ∀ r ∈ L', r.x.size ≤ 1099511627776 ∧ 0 ≤ r.f ∧ r.f ≤ 1099511627776)
    (h4 : GS s.data.toList ((C ++ R.take (m0 - m)) ++ (R.drop (m0 - m)).take k) out' wi' kept') (h5 : rnOK s.data.toList kept' (cutL L' o')) (h6 : rem_ L' o' = (R.drop (m0 - m)).drop k) (h7 : n' + nl' ≤ N + 1) (h8 : k < m → n' + nl' ≤ N)
    (hb : Below base w0 wr) (hb' : Below base wr wc) (hkp : Kp [Bo, Bw, Bk, Br] row0 w0 wr) (hkp' : Kp [Bo, Bw, Bk] rowA wr wc) (hr : RowNext w0 row0 rowA) (hr' : RowNext wr rowA (Value.slice A' n' c').ownBlock) (hbB : base ≤ Br) (hfs : ∃ f, wf.os = wc.os ∧ wf.tape = wc.tape ∧ wf.output = f ∧ f = wc.output) :
    RSt base Bs Bo Bw Bk Bp Br s (C ++ R.take (m0 - (m - k))) (R.drop (m0 - (m - k))) (N + 1) row0 w0 wf ∧ (0 < m - k → RSt base Bs Bo Bw Bk Bp Br s (C ++ R.take (m0 - (m - k))) (R.drop (m0 - (m - k))) N row0 w0 wf) := by
  have hrs' : RnsS wf Ar' L' := hrs.keep fun g cur fz hg => (hag g (by rintro rfl; rw [hbr] at hg; injection hg with hg; injection hg with _ h2; exact absurd h2 (by decide))).trans hg
  obtain ⟨f, f1, f2, f3, f4⟩ := hfs
  have hbf : Below base wc wf := ⟨f1, f2, f3.trans f4, by omega, fun i hi => hag i (by omega)⟩
  have hkf : ∀ row, Kp [Bo, Bw, Bk, Br] row wc wf := fun row => ⟨by omega, fun i o hi hx _ _ => (hag i (fun e => hx (by simp [e]))).trans hi⟩
  exact rloop_close hm hk (h1.other hbr hag hsz) ((hag Bp (blk_ne_one h2 hbr)).trans h2) ⟨hblk, hlen, hcap, hmx, hrs', hoff, hbd⟩ h4 h5 h6 h7 h8 hb (hb'.trans hbf) hkp ((hkp'.more (by simp)).trans (hkf _) (.inl rfl)) hr hr'

def lenAt (Br : Nat) (w : World) : Nat := match w.cell? ⟨Br, 0, none⟩ with
  | some (.slice _ n _) => n
  | _ => 0

theorem lenAt_of {w : World} {Br n c : Nat} {A : Option Addr} {y : Value} {T : TypeId} (h : w.heap[Br]? = some (.cells #[.slice A n c, y] T (0, 0))) : lenAt Br w = n := by
  have : w.cell? ⟨Br, 0, none⟩ = some (.slice A n c) := by rw [Lib.cell_of_heap h]; rfl
  unfold lenAt
  rw [this]

/-- The loop's relation. -/
def RLoop (base Bs Bo Bw Bk Bp Br : Nat) (s : ByteArray) (C R : List UInt8) (N m0 : Nat) (row0 : Option Nat) (w0 : World) (i : Value) (wr : World) : Prop :=
  ∃ m : Nat, m ≤ m0 ∧ i = .int .i64 m ∧ RSt base Bs Bo Bw Bk Bp Br s (C ++ R.take (m0 - m)) (R.drop (m0 - m)) (N + 1) row0 w0 wr ∧ (0 < m → RSt base Bs Bo Bw Bk Bp Br s (C ++ R.take (m0 - m)) (R.drop (m0 - m)) N row0 w0 wr)

set_option maxRecDepth 100000 in
set_option maxHeartbeats 4000000 in
theorem read_gather (base Bs Bo Bw Bk Bp Br : Nat) (s : ByteArray) (C R : List UInt8) (N m0 : Nat) (row0 : Option Nat) (w0 w : World) (h : RSt base Bs Bo Bw Bk Bp Br s C R N row0 w0 w) (hm : m0 ≤ R.length) (hN : N ≤ 1000000) (hC : C.length + m0 ≤ 1099511627776) (hs : s.size ≤ 1099511627776) (hBr : base ≤ Br) :
    Calls Try.prog 52 #[.pointer (some ⟨Br, 0, none⟩), .int .i64 m0, gaVal Bw Bp Bk] w fun e w' => e = .returned (.tuple #[]) ∧ RSt base Bs Bo Bw Bk Bp Br s (C ++ R.take m0) (R.drop m0) (N + 1) row0 w0 w' := by
  have H := Lib.hid h
  clear h
  unfold gaVal
  go_enter Try.func52, Try.ntmps52
  go_wp2_with fail
  go_loopw [1] (fun i wr => Hid (RLoop base Bs Bo Bw Bk Bp Br s C R N m0 row0 w0 i wr)) (fun i wr => (intOf i).toNat + lenAt Br wr)
  case atStart =>
    refine ⟨m0, Nat.le_refl _, rfl, ?_, fun _ => ?_⟩
    · rw [Nat.sub_self, List.take_zero, List.drop_zero, List.append_nil]
      obtain ⟨out, n, wi, kept, A, c, L, nl, o, Ar, cr, a1, a2, a3, a4, a5, a6, a7, a8⟩ := H.out
      exact ⟨out, n, wi, kept, A, c, L, nl, o, Ar, cr, a1, a2, a3, a4, a5, a6, by omega, a8⟩
    · rw [Nat.sub_self, List.take_zero, List.drop_zero, List.append_nil]; exact H.out
  case round =>
    obtain ⟨m, hmm, rfl, HS1, HS⟩ := hrel.out
    clear hrel
    rcases Nat.eq_zero_or_pos m with h0 | h0
    · subst h0
      have HF := Lib.hid HS1
      clear HS HS1
      go_wp2
      go_end0
      have := HF.out
      rw [Nat.sub_zero] at this
      exact ⟨rfl, this⟩
    · obtain ⟨out, n, wi, kept, A, c, L, nl, o, Ar, cr, hcs, hop, hrd, hgs, hok, hrem, hnn, hbl, hkp, hrow⟩ := HS h0
      clear HS HS1
      -- there is a run
      have hRl : (R.drop (m0 - m)).length = R.length - (m0 - m) := List.length_drop ..
      obtain ⟨r, t, hL⟩ : ∃ r t, L = r :: t := by
        cases L with
        | nil => exfalso; rw [← hrem] at hRl; simp [rem_] at hRl; omega
        | cons r t => exact ⟨r, t, rfl⟩
      subst hL
      have ho := hrd.off r t rfl
      have hnl : nl = t.length + 1 := by rw [← hrd.len]; rfl
      obtain ⟨g, oo, cur, fz, hAr, hg, hcur⟩ := hrd.rns (by simp)
      obtain ⟨e0, e1, e2⟩ := hcur 0 r rfl
      rw [Nat.zero_mul, Nat.add_zero] at e0 e1 e2
      have cb0 : wr.cell? ⟨Br, 0, none⟩ = some (.slice Ar nl cr) := by rw [Lib.cell_of_heap hrd.blk]; rfl
      have cb1 : wr.cell? ⟨Br, 1, none⟩ = some (.int .i64 o) := by rw [Lib.cell_of_heap hrd.blk]; rfl
      have fb0 : wr.frozen? ⟨Br, 0, none⟩ = false := Lib.frozen_of_heap hrd.blk 0
      have fb1 : wr.frozen? ⟨Br, 1, none⟩ = false := Lib.frozen_of_heap hrd.blk 1
      have hBl := lt_of_heap hrd.blk
      have cg0 : wr.cell? ⟨g, oo, none⟩ = some (.string r.x) := by rw [Lib.cell_of_heap hg]; exact e0
      have cg1 : wr.cell? ⟨g, oo + 1, none⟩ = some (.bool r.kept) := by rw [Lib.cell_of_heap hg]; exact e1
      have cg2 : wr.cell? ⟨g, oo + 2, none⟩ = some (.int .i64 r.f) := by rw [Lib.cell_of_heap hg]; exact e2
      subst hAr
      obtain ⟨hrx, hrf0, hrf1⟩ := hrd.bd r (by simp)
      obtain ⟨d, hd⟩ : ∃ d, d = r.x.size - o := ⟨_, rfl⟩
      obtain ⟨k, hkd⟩ : ∃ k, k = min m d := ⟨_, rfl⟩
      have hkm : k ≤ m := by omega
      have hko : o + k ≤ r.x.size := by omega
      have HKX := Lib.hid (show k < m → o + k = r.x.size by omega)
      have p1 : IntKind.i64.wrap ((r.x.size : Int) - (o : Int)) = (d : Int) := by rw [IntWalk.i64_in _ (by omega)]; omega
      have p2 : min (m : Int) (d : Int) = (k : Int) := by omega
      have P1 := Lib.hid p1; have P2 := Lib.hid p2
      clear hd hkd p1 p2
      have HCS := Lib.hid hcs; have HOP := Lib.hid hop; have HRD := Lib.hid hrd; have HGS := Lib.hid hgs; have HOK := Lib.hid hok; have HREM := Lib.hid hrem; have HBL := Lib.hid hbl; have HKP := Lib.hid hkp; have HRW := Lib.hid hrow; have HNL := Lib.hid hnl
      have hnl1 : 0 < nl := by omega
      have hnl2 : (0 : Int) < nl := by omega
      clear hcs hop hrd hgs hok hrem hbl hkp hrow hcur hg e0 e1 e2 hRl hnl
      go_wp2_with fail
      have p1 := P1.out
      have p2 := P2.out
      go_quiet (fail)
      clear p1 p2 P1 P2
      have hcs1 := HCS.out.same (((Below.refl _ wr).alloc (Nat.le_refl _) (.cells #[.string r.x, .bool r.kept, .int .i64 r.f] 80)))
      have hbx := heap_alloc_new wr (.cells #[.string r.x, .bool r.kept, .int .i64 r.f] 80)
      have hop1 : One (wr.alloc (.cells #[.string r.x, .bool r.kept, .int .i64 r.f] 80)) Bp 71 (pdVal Bs Bo Bw Bk) := (Below.heap_alloc wr _ Bp HOP.out.lt).trans HOP.out
      have hrb1 := (Below.heap_alloc wr (.cells #[.string r.x, .bool r.kept, .int .i64 r.f] 80) Br hBl).trans HRD.out.blk
      have HCS1 := Lib.hid hcs1; have HBX := Lib.hid hbx; have HOP1 := Lib.hid hop1; have HRB1 := Lib.hid hrb1
      clear hcs1 hbx hop1 hrb1
      go_upto_if 27 with fail
      go_cut [] (fun wx => Hid (HandRel base Bs Bo Bw Bk Bp Br s (C ++ R.take (m0 - m)) (R.drop (m0 - m)) k n nl r t o g oo cr (Value.slice A n c).ownBlock wr wx))
      case first =>
        rcases Nat.eq_zero_or_pos k with hk0 | hk0
        · subst hk0
          go_wp2_with fail
          go_meet
          exact handrel_none HCS1.out HOP1.out HRB1.out HBX.out HRD.out.rns HGS.out HOK.out ho HCS.out.b3
        · have v1 : IntKind.i64.wrap ((o : Int) + (k : Int)) = (o : Int) + (k : Int) := IntWalk.i64_in _ (by omega)
          have v2 : IntKind.i64.wrap (r.f + (o : Int)) = r.f + (o : Int) := IntWalk.i64_in _ (by omega)
          have v3 : (o : Int) ≤ (o : Int) + (k : Int) := by omega
          have v4 : (o : Int) + (k : Int) ≤ (r.x.size : Int) := by omega
          have v5 : ((o : Int) + (k : Int)).toNat = o + k := by omega
          have v6 : (0 : Int) ≤ (o : Int) := by omega
          have v7 : (0 : Int) ≤ (o : Int) + (k : Int) := by omega
          have v8 : (0 : Int) ≤ (k : Int) := by omega
          have hcsd : CSt base Bs Bo Bw Bk s out n wi kept A c (((wr.alloc (.cells #[.string r.x, .bool r.kept, .int .i64 r.f] 80)).drewN nq).drew) := ⟨HCS1.out.hs, HCS1.out.ho, HCS1.out.hk, HCS1.out.hw, HCS1.out.own, HCS1.out.hn, HCS1.out.b1, HCS1.out.b2, HCS1.out.b3⟩
          have hxs : (r.x.extract o (o + k)).size = k := by rw [ByteArray.size_extract]; omega
          have hh2 : r.kept = true → kept ≤ r.f + (o : Int) ∧ r.f + (o : Int) + ((r.x.extract o (o + k)).size : Int) ≤ s.size := fun hkk => by
            obtain ⟨a1, a2, a3, _⟩ := rn_step_ok (k := k) HOK.out hko hkk
            rw [hxs, Lib.size_eq s]; exact ⟨a1, a3⟩
          have hh5 : wi.length + (r.x.extract o (o + k)).size ≤ 1099511627776 := by
            have := congrArg List.length HGS.out.ap
            simp only [List.length_append, List.length_take] at this
            omega
          have hne := Lib.hid (own_ne_blk HCS1.out.own HRB1.out (by decide))
          have hne2 := Lib.hid (show some wr.heap.size ≠ (Value.slice A n c).ownBlock from fun e => by have := (HCS.out.own.lt _ e.symm).2; omega)
          have w1 := blk_ne_one HCS1.out.ho HRB1.out
          have w2 := blk_ne_one HCS1.out.hk HRB1.out
          have w3 : Bw ≠ Br := by
            obtain ⟨pp, vv, hb', _⟩ := isb_block HCS1.out.hw
            rintro rfl
            rw [HRB1.out] at hb'
            injection hb' with hb'
            injection hb' with _ h2
            exact absurd h2 (by decide)
          have w4 := HCS.out.ho.lt
          have w5' := HCS.out.hk.lt
          have w6 : Bw < wr.heap.size := by obtain ⟨pp, vv, hb', _⟩ := isb_block HCS.out.hw; exact lt_of_heap hb'
          have HCSd := Lib.hid hcsd; have HH2 := Lib.hid hh2; have HH5 := Lib.hid hh5; have HXS := Lib.hid hxs
          have hk00 := HGS.out.k0
          clear hcsd hh2 hh5 hxs
          go_wp2_with fail
          go_region_held3 (fun w' => w'.cell? ⟨wr.heap.size, 0, none⟩ = some (.string r.x) ∧ w'.cell? ⟨wr.heap.size, 1, none⟩ = some (.bool r.kept) ∧ w'.cell? ⟨wr.heap.size, 2, none⟩ = some (.int .i64 r.f) ∧ w'.cell? ⟨Br, 1, none⟩ = some (.int .i64 o))
            (first
              | go_keep
              | exact ⟨by rw [Lib.cell_of_heap bx5]; rfl, by rw [Lib.cell_of_heap bx5]; rfl, by rw [Lib.cell_of_heap bx5]; rfl, by rw [Lib.cell_of_heap rb5]; rfl⟩)
            (first
              | (go_at_call 49; refine (gather_any base Bs Bo Bw Bk Bp s (r.x.extract o (o + k)) r.kept (r.f + (o : Int)) out n wi kept A c _ HCSd.out HOP1.out hk00 HH2.out hs HH5.out (by omega)).mono ?_; rintro e' w5 ⟨out', wi', kept', ⟨n', A', c', rfl, hc5, hp5, hb5, hk5, hr5⟩, hcase⟩; have bx5 := hk5.2 wr.heap.size _ HBX.out (by simp; omega) hne2.out (fun cc ff e => by cases e); have rb5 := hk5.2 Br _ HRB1.out (by simp; omega) hne.out (fun cc ff e => by cases e)))
          go_wp2_with fail
          go_meet
          exact handrel_some hc5 hp5 rb5 bx5 HRD.out.rns HGS.out HOK.out HREM.out hko HXS.out hcase hb5 hk5 hr5 HCS.out.b3 HCS.out.hn hc5.hn HCS.out.own HCS.out.ho HCS.out.hk (Exists.imp (fun _ h => Exists.imp (fun _ h => h.1) h) (isb_block HCS.out.hw))
      case rest =>
        obtain ⟨out', n', wi', kept', A', c', hc5, hp5, rb5, bx5, hrs5, hgs5, hok5, hok6, hn5, hb5, hk5, hr5⟩ := hcut.out
        clear hcut
        have cc1 : wc.cell? ⟨Br, 1, none⟩ = some (.int .i64 o) := by rw [Lib.cell_of_heap rb5]; rfl
        have cc0 : wc.cell? ⟨Br, 0, none⟩ = some (.slice (some ⟨g, oo, none⟩) nl cr) := by rw [Lib.cell_of_heap rb5]; rfl
        have ff0 : wc.frozen? ⟨Br, 0, none⟩ = false := Lib.frozen_of_heap rb5 0
        have ff1 : wc.frozen? ⟨Br, 1, none⟩ = false := Lib.frozen_of_heap rb5 1
        have cx0 : wc.cell? ⟨wr.heap.size, 0, none⟩ = some (.string r.x) := by rw [Lib.cell_of_heap bx5]; rfl
        have hne5 : wr.heap.size ≠ Br := by omega
        have HFA := Lib.hid (And.intro hc5 (And.intro hp5 (And.intro rb5 (And.intro hrs5 (And.intro hgs5 (And.intro hok5 (And.intro hok6 (And.intro hb5 (And.intro hk5 hr5)))))))))
        clear hc5 hp5 rb5 bx5 hrs5 hgs5 hok5 hok6 hb5 hk5 hr5
        have v1 : IntKind.i64.wrap ((o : Int) + (k : Int)) = (o : Int) + (k : Int) := IntWalk.i64_in _ (by omega)
        clear cb0 cb1 fb0 fb1 cg0 cg1 cg2
        by_cases hend : o + k = r.x.size
        · have q1 : ((o : Int) + (k : Int) == (r.x.size : Int)) = true := by rw [beq_iff_eq]; omega
          have HEN := Lib.hid hend; clear hend
          go_wp2_with fail
          go_quiet (fail)
          clear v1
          by_cases hc1 : cr = 1
          · subst hc1
            go_wp2
            have hnl0 := HNL.out
            have hcap := HRD.out.cap
            have ht0 : t = [] := List.eq_nil_of_length_eq_zero (by omega)
            obtain ⟨hc5, hp5, rb5, hrs5, hgs5, hok5, hok6, hb5, hk5, hr5⟩ := HFA.out
            refine ⟨⟨m - k, by omega, congrArg _ (by omega), ?_⟩, ?_⟩
            · have hrt : RnsS wc (some ⟨g, oo, none⟩) t := by rw [ht0]; exact fun h => absurd rfl h
              exact read_fin hmm hkm hc5 hp5 rb5 (fun q hq => set3_other wc Br q _ _ _ _ hq) (set3_size wc Br _ _ _ _) (set3_blk wc Br _ _ _ _ rb5) (L' := t) (nl' := nl - 1) (o' := 0) (cr' := 0) (N := N) (by omega) (by omega) (by omega) hrt (fun _ _ _ => Nat.zero_le _) (fun x hx => HRD.out.bd x (List.mem_cons_of_mem _ hx)) hgs5 (cut0 (hok6 HEN.out)) (((rem_step r t o k hko).2.2 HEN.out).trans (by rw [HREM.out])) (by omega) (fun _ => by omega) HBL.out hb5 HKP.out hk5 HRW.out hr5 hBr ⟨_, rfl, rfl, rfl, rfl⟩
            · have l1 := lenAt_of HRD.out.blk
              have l2 := lenAt_of (set3_blk wc Br (.int .i64 ((o : Int) + k)) (.slice (some ⟨g, oo, none⟩) (nl - 1) 0) (.int .i64 0) nq rb5)
              rw [l1, l2]; simp [intOf]; omega
          · go_wp2
            have hnl0 := HNL.out
            have hcap := HRD.out.cap
            have hmx := HRD.out.mx
            obtain ⟨hc5, hp5, rb5, hrs5, hgs5, hok5, hok6, hb5, hk5, hr5⟩ := HFA.out
            have htl := hrs5.tail (c := cr) (by omega)
            rw [if_neg hc1] at htl
            have htl' : RnsS wc (some ⟨g, oo + 3, none⟩) t := by simpa [Addr.add] using htl
            refine ⟨⟨m - k, by omega, congrArg _ (by omega), ?_⟩, ?_⟩
            · exact read_fin hmm hkm hc5 hp5 rb5 (fun q hq => set3_other wc Br q _ _ _ _ hq) (set3_size wc Br _ _ _ _) (set3_blk wc Br _ _ _ _ rb5) (L' := t) (nl' := nl - 1) (o' := 0) (cr' := cr - 1) (N := N) (by omega) (by omega) (by omega) htl' (fun _ _ _ => Nat.zero_le _) (fun x hx => HRD.out.bd x (List.mem_cons_of_mem _ hx)) hgs5 (cut0 (hok6 HEN.out)) (((rem_step r t o k hko).2.2 HEN.out).trans (by rw [HREM.out])) (by omega) (fun _ => by omega) HBL.out hb5 HKP.out hk5 HRW.out hr5 hBr ⟨_, rfl, rfl, rfl, rfl⟩
            · have l1 := lenAt_of HRD.out.blk
              have l2 := lenAt_of (set3_blk wc Br (.int .i64 ((o : Int) + k)) (.slice (some ⟨g, oo + 3, none⟩) (nl - 1) (cr - 1)) (.int .i64 0) nq rb5)
              rw [l1, l2]; simp [intOf]; omega
        · have q1 : ((o : Int) + (k : Int) == (r.x.size : Int)) = false := by rw [beq_eq_false_iff_ne]; omega
          have HEN := Lib.hid hend; clear hend
          go_wp2_with fail
          go_quiet (fail)
          clear v1
          go_wp2
          have hnl0 := HNL.out
          have hkm2 : ¬ k < m := fun h => HEN.out (HKX.out h)
          obtain ⟨hc5, hp5, rb5, hrs5, hgs5, hok5, hok6, hb5, hk5, hr5⟩ := HFA.out
          refine ⟨⟨m - k, by omega, congrArg _ (by omega), ?_⟩, ?_⟩
          · have hcast : (.int .i64 ((o : Int) + (k : Int)) : Value) = .int .i64 ((o + k : Nat) : Int) := congrArg _ (by omega)
            exact read_fin hmm hkm hc5 hp5 rb5 (fun q hq => Below.heap_setCell wc ⟨Br, 1, none⟩ _ q hq) (by simp [World.setCell, World.drewN]) (by rw [hcast]; exact set1_blk wc Br _ _ rb5) (L' := r :: t) (nl' := nl) (o' := o + k) (cr' := cr) (N := N) HRD.out.len HRD.out.cap HRD.out.mx hrs5 (fun r' t' h => by injection h with h1 h2; subst h1; exact hko) HRD.out.bd hgs5 hok5 ((rem_step r t o k hko).2.1.trans (by rw [HREM.out])) (by omega) (fun h => absurd h hkm2) HBL.out hb5 HKP.out hk5 HRW.out hr5 hBr ⟨_, rfl, rfl, rfl, rfl⟩
          · have l1 := lenAt_of HRD.out.blk
            have l2 := lenAt_of (set1_blk wc Br (.int .i64 ((o : Int) + k)) nq rb5)
            rw [l1, l2]; simp [intOf]; omega
end Go.Proofs.Ytpifobaejmfppaa
