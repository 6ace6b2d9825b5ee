/- What gather does: the next bytes, as a text. -/
import Derived.Test.YtpifobaejmfppaaN6
import Derived.Test.YtpifobaejmfppaaN7
namespace Go.Proofs.Ytpifobaejmfppaa
open Go.RowKit

theorem bc_get : ∀ (l : List UInt8) (j : Nat) (u : Value), (Lib.byteCells l)[j]? = some u → ∃ b, l[j]? = some b ∧ u = .int .u8 b.toNat := by
  intro l j u h
  unfold Lib.byteCells at h
  rw [List.getElem?_map] at h
  cases hl : l[j]? with
  | none => rw [hl] at h; simp at h
  | some b => rw [hl] at h; simp at h; exact ⟨b, rfl, h.symm⟩

set_option maxHeartbeats 1000000 in
theorem hand77 (base Bt : Nat) (C : List UInt8) (q : Pc) (w : World) (hb : Lib.IsBuilder 70 5 base Bt (Lib.byteCells C) w) (hq : PcAt w q) (hg : q.g < base) (hl : C.length + q.bs.length ≤ 1099511627776) (hbw : base ≤ w.heap.size) :
    Calls Try.prog 77 #[q.val, .pointer (some ⟨Bt, 0, none⟩)] w fun e w' => e = .returned (.tuple #[]) ∧ Lib.IsBuilder 70 5 base Bt (Lib.byteCells (C ++ q.bs)) w' ∧ Below base w w' := by
  have hc := Try.Builder_Write base Bt (Lib.byteCells C) ⟨q.g, q.o, none⟩ q.bs.length q.bs.length (Lib.byteCells q.bs) w hb (Lib.byteCells_length _) (fun j u hj => by
    obtain ⟨b, hb1, rfl⟩ := bc_get _ _ _ hj
    obtain ⟨cur, fz, hgg, hcur⟩ := hq
    have : (⟨q.g, q.o, none⟩ : Addr).add j = ⟨q.g, q.o + j, none⟩ := by unfold Addr.add; split <;> simp_all
    rw [this, Lib.cell_of_heap hgg]
    exact hcur j b hb1) hg (fun u hu => by
      obtain ⟨j, hj⟩ := List.mem_iff_getElem?.1 hu
      obtain ⟨b, _, rfl⟩ := bc_get _ _ _ hj
      rfl) (by rw [Lib.byteCells_length]; omega) hbw
  have HC := Lib.hid hc
  clear hc hb hq
  unfold Pc.val
  generalize q.bs.length = ql at *
  go_enter Try.func77, Try.ntmps77
  go_wp2_with fail
  refine HC.out.mono ?_
  rintro e w1 ⟨rfl, h1, h2⟩
  have HX := Lib.hid (And.intro h1 h2)
  clear h1 h2
  go_wp2
  go_end0
  obtain ⟨h1, h2⟩ := HX.out
  exact ⟨rfl, .inr (by rw [Lib.byteCells_append]; exact h1), h2⟩

/-- gather's builder, while bytes are handed on: nothing old but the cutter is changed. -/
def GaI (base Bc Bt : Nat) (w0 : World) (C : List UInt8) (w : World) : Prop :=
  Lib.IsBuilder 70 5 base Bt (Lib.byteCells C) w ∧ w.os = w0.os ∧ w.tape = w0.tape ∧ w.output = w0.output ∧ base ≤ w.heap.size ∧ ∀ i, i < base → i ≠ Bc → w.heap[i]? = w0.heap[i]?

theorem isb_far {base Bt Bc : Nat} {bs : List Value} {w1 w2 : World} (h : Lib.IsBuilder 70 5 base Bt bs w1) (hB : Bc < base) (hag : ∀ i, i ≠ Bc → w2.heap[i]? = w1.heap[i]?) : Lib.IsBuilder 70 5 base Bt bs w2 := by
  have key : ∀ p, Lib.BuilderAt 70 5 base Bt p bs w1 → Lib.BuilderAt 70 5 base Bt p bs w2 := by
    rintro p ⟨hb, v, hbk, hown, hne⟩
    refine ⟨hb, v, (hag Bt (by omega)).trans hbk, ⟨hown.1, ?_⟩, hne⟩
    rcases hown.2 with hn | ⟨g, cap, cur, rfl, hbb, hgg, rest⟩
    · exact .inl hn
    · exact .inr ⟨g, cap, cur, rfl, hbb, (hag g (by omega)).trans hgg, rest⟩
  exact h.imp (key _) (key _)

theorem CutAt.same {w w' : World} {Bc : Nat} {L : List Pc} {nl off : Nat} {A : Option Addr} {c : Nat} (h : CutAt w Bc L nl off A c) (hb : ∀ i, i < w.heap.size → w'.heap[i]? = w.heap[i]?) : CutAt w' Bc L nl off A c := by
  refine ⟨(hb _ (lt_of_heap h.blk)).trans h.blk, h.len, h.cap, h.mx, ?_, fun p hp => ⟨(h.at' p hp).1.keep ?_, (h.at' p hp).2⟩, h.off⟩
  · intro hne
    obtain ⟨g, o, cur, fz, hA, hg, hr⟩ := h.pcs hne
    exact ⟨g, o, cur, fz, hA, (hb g (lt_of_heap hg)).trans hg, hr⟩
  · obtain ⟨cur, fz, hg, _⟩ := (h.at' p hp).1
    exact hb _ (lt_of_heap hg)

theorem CutAt.sameAt {w w' : World} {Bc : Nat} {L : List Pc} {nl off : Nat} {A : Option Addr} {c : Nat} (h : CutAt w Bc L nl off A c) (hB : w'.heap[Bc]? = w.heap[Bc]?) (hG : ∀ ad, A = some ad → w'.heap[ad.block]? = w.heap[ad.block]?) (hp : ∀ p ∈ L, w'.heap[p.g]? = w.heap[p.g]?) : CutAt w' Bc L nl off A c := by
  refine ⟨hB.trans h.blk, h.len, h.cap, h.mx, ?_, fun p hq => ⟨(h.at' p hq).1.keep (hp p hq), (h.at' p hq).2⟩, h.off⟩
  intro hne
  obtain ⟨g, o, cur, fz, hA, hg, hr⟩ := h.pcs hne
  exact ⟨g, o, cur, fz, hA, (hG _ hA).trans hg, hr⟩

/-- What gather leaves of the cutter. -/
def GaBackC (Bc G : Nat) (L0 : List Pc) (R : List UInt8) (m0 : Nat) (w w' : World) : Prop :=
  ∃ L nl off A c, CutAt w' Bc L nl off A c ∧ (∃ pre, L0 = pre ++ L) ∧ remC L off = R.drop m0 ∧ (∀ ad, A = some ad → ad.block = G) ∧ Kb (fun i => i = Bc) w w'

set_option maxRecDepth 100000 in
set_option maxHeartbeats 2000000 in
theorem bgather_any (Bc G : Nat) (L : List Pc) (nl off : Nat) (A : Option Addr) (c : Nat) (R : List UInt8) (m0 : Nat) (w : World) (hcut : CutAt w Bc L nl off A c) (hAG : ∀ ad, A = some ad → ad.block = G) (hR : remC L off = R) (hm : m0 ≤ R.length) (hm1 : m0 ≤ 1099511627776) (hG : G < w.heap.size) (hGB : G ≠ Bc) :
    Calls Try.prog 62 #[.pointer (some ⟨Bc, 0, none⟩), .int .i64 m0] w fun e w' => e = .returned (.string ⟨(R.take m0).toArray⟩) ∧ GaBackC Bc G L R m0 w w' := by
  have hBl := lt_of_heap hcut.blk
  have HCUT := Lib.hid hcut; have HAG := Lib.hid hAG; have HR := Lib.hid hR
  have hpl : ∀ p ∈ L, p.g < w.heap.size := fun p hp => by obtain ⟨cur, fz, hg, _⟩ := (hcut.at' p hp).1; exact lt_of_heap hg
  have HPL := Lib.hid hpl
  clear hcut hAG hR hpl
  have p1 : max (0 : Int) (m0 : Int) = (m0 : Int) := by omega
  go_enter Try.func62, Try.ntmps62
  go_wp2_with fail
  refine (Try.Builder_Grow_fresh w.heap.size w.heap.size m0 _ (Nat.le_refl _) (heap_alloc_new w _) (by simp) (by omega)).mono ?_
  rintro e w1 ⟨rfl, hB1, hb1⟩
  have hb1' : Below w.heap.size w w1 := ((Below.refl _ w).alloc (Nat.le_refl _) _).trans hb1
  have hst : CutRel Bc G (GaI w.heap.size Bc w.heap.size w) (fun i => i < w.heap.size) L [] R m0 w1 (.int .i64 m0) w1 := by
    refine ⟨m0, L, nl, off, A, c, Nat.le_refl _, rfl, HCUT.out.same (fun i hi => hb1'.block i hi), ⟨[], rfl⟩, ?_, by rw [Nat.sub_self, List.drop_zero]; exact HR.out, HAG.out, fun _ _ _ => rfl, Nat.le_refl _⟩
    rw [Nat.sub_self, List.take_zero]
    exact ⟨.inr hB1, hb1'.os, hb1'.tape, hb1'.output, hb1'.size, fun i hi _ => hb1'.block i hi⟩
  have HST := Lib.hid hst
  clear hst hB1 hb1
  have HB1 := Lib.hid hb1'; clear hb1'
  go_wp2_with fail
  refine (cut_any Bc G 77 #[.pointer (some ⟨w.heap.size, 0, none⟩)] (GaI w.heap.size Bc w.heap.size w) (fun i => i < w.heap.size) L [] R m0 1099511627776 w1 HST.out hm hm1 (by simp; omega) hBl hG HPL.out hGB ?_ cf77 ?_).mono ?_
  · rintro q C' w2 ⟨i1, i2, i3, i4, i5, i6⟩ hq hK _ _ hl _
    refine (hand77 w.heap.size w.heap.size C' q w2 i1 hq hK hl i5).mono ?_
    rintro e w3 ⟨rfl, j1, j2⟩
    exact ⟨rfl, ⟨j1, j2.os.trans i2, j2.tape.trans i3, j2.output.trans i4, Nat.le_trans i5 j2.size, fun i hi hn => (j2.block i hi).trans (i6 i hi hn)⟩, fun i hi => j2.block i hi, j2.size⟩
  · rintro C' w2 w3 ⟨i1, i2, i3, i4, i5, i6⟩ hag hsz ho ht hout
    exact ⟨isb_far i1 hBl hag, ho.trans i2, ht.trans i3, hout.trans i4, by omega, fun i hi hn => (hag i hn).trans (i6 i hi hn)⟩
  rintro e w2 ⟨rfl, m, L', nl', off', A', c', _, hi0, hcut', hpre', hI', hrem', hA', _, _⟩
  have hm0 : m = 0 := by injection hi0 with _ h; omega
  subst hm0
  rw [Nat.sub_zero, List.nil_append] at hI'
  rw [Nat.sub_zero] at hrem'
  obtain ⟨i1, i2, i3, i4, i5, i6⟩ := hI'
  have HI1 := Lib.hid i1; have HI6 := Lib.hid i6; have HC' := Lib.hid hcut'; have HP' := Lib.hid hpre'; have HR' := Lib.hid hrem'; have HA' := Lib.hid hA'
  have HOS := Lib.hid (And.intro i2 (And.intro i3 i4))
  clear i1 i2 i3 i4 i6 hcut' hpre' hrem' hA' hi0
  go_wp2_with fail
  refine (Try.Builder_String_any_k w.heap.size w.heap.size (R.take m0) w2 (Lib.IsBuilderF.of HI1.out) i5).mono ?_
  rintro e w3 ⟨rfl, _, hb3, hk3⟩
  have HB3 := Lib.hid hb3; have HK3 := Lib.hid hk3
  clear hb3 hk3
  go_wp2
  go_ret
  refine ⟨rfl, L', nl', off', A', c', HC'.out.sameAt (HB3.out.block _ hBl) (fun ad h => by rw [HA'.out ad h]; exact HB3.out.block _ hG) (fun p hp => HB3.out.block _ (HPL.out p (by obtain ⟨pre, he⟩ := HP'.out; rw [he]; exact List.mem_append_right _ hp))), HP'.out, HR'.out, HA'.out, ?_⟩
  obtain ⟨o1, o2, o3⟩ := HOS.out
  exact ⟨HB3.out.os.trans o1, HB3.out.tape.trans o2, HB3.out.output.trans o3, Nat.le_trans i5 HB3.out.size, fun i hi hn => (HB3.out.block i hi).trans (HI6.out i hi hn)⟩
end Go.Proofs.Ytpifobaejmfppaa
