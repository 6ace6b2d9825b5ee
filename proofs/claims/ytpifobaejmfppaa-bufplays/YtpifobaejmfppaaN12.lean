/- What swap keeps while it goes through the edits: a cutter, and pieces put down. -/
import Derived.Test.YtpifobaejmfppaaN11
namespace Go.Proofs.Ytpifobaejmfppaa
open Go.RowKit

/-- All that is not one of these three blocks, nor a row of pieces from base on, stands as it stood. -/
structure Kc (base Bo Bz Bc : Nat) (w w' : World) : Prop where
  os : w'.os = w.os
  tape : w'.tape = w.tape
  output : w'.output = w.output
  size : w.heap.size ≤ w'.heap.size
  block : ∀ i, i < w.heap.size → i ≠ Bc → i ≠ Bo → i ≠ Bz → (i < base ∨ ∃ cs t fz, w.heap[i]? = some (.cells cs t fz) ∧ t ≠ 64) → w'.heap[i]? = w.heap[i]?

namespace Kc
variable {base Bo Bz Bc : Nat} {a b c : World}
theorem refl (a : World) : Kc base Bo Bz Bc a a := ⟨rfl, rfl, rfl, Nat.le_refl _, fun _ _ _ _ _ _ => rfl⟩
theorem trans (h : Kc base Bo Bz Bc a b) (k : Kc base Bo Bz Bc b c) : Kc base Bo Bz Bc a c :=
  ⟨k.os.trans h.os, k.tape.trans h.tape, k.output.trans h.output, Nat.le_trans h.size k.size, fun i hi h1 h2 h3 h4 => by
    have e := h.block i hi h1 h2 h3 h4
    refine (k.block i (Nat.lt_of_lt_of_le hi h.size) h1 h2 h3 ?_).trans e
    rcases h4 with h4 | ⟨cs, t, fz, h5, h6⟩
    · exact .inl h4
    · exact .inr ⟨cs, t, fz, e.trans h5, h6⟩⟩
theorem below {N : Nat} (h : Kc base Bo Bz Bc a b) (hN : N ≤ a.heap.size) (h1 : N ≤ Bc) (h2 : N ≤ Bo) (h3 : N ≤ Bz) (h4 : N ≤ base) : Below N a b :=
  ⟨h.os, h.tape, h.output, h.size, fun i hi => h.block i (by omega) (by omega) (by omega) (by omega) (.inl (by omega))⟩
theorem of_kb (h : Kb (fun i => i = Bc) a b) : Kc base Bo Bz Bc a b := ⟨h.os, h.tape, h.output, h.size, fun i hi h1 _ _ _ => h.block i hi h1⟩
theorem of_below (h : Below a.heap.size a b) : Kc base Bo Bz Bc a b := ⟨h.os, h.tape, h.output, h.size, fun i hi _ _ _ _ => h.block i hi⟩
theorem heap (h : Kc base Bo Bz Bc a b) {i t : Nat} {cs : Array Value} {fz : Nat × Nat} (hi : a.heap[i]? = some (.cells cs t fz)) (ht : t ≠ 64) (h1 : i ≠ Bc) (h2 : i ≠ Bo) (h3 : i ≠ Bz) : b.heap[i]? = some (.cells cs t fz) :=
  (h.block i (lt_of_heap hi) h1 h2 h3 (.inr ⟨cs, t, fz, hi, ht⟩)).trans hi
end Kc

/-- Pieces put down: the bytes C. -/
def PutAt (w : World) (base Bc Bo Bz : Nat) (C : List UInt8) : Prop :=
  ∃ A n c Lp, SwAt w base Bo Bz A n c (Lp.map Pc.val) C.length ∧ Lp.length = n ∧ (∀ q ∈ Lp, PcAt w q ∧ 0 < q.bs.length ∧ q.bs.length ≤ 1099511627776 ∧ q.g ≠ Bc) ∧ pcText Lp = C

/-- A cutter with the bytes R ahead of it. -/
def CuAt (w : World) (Bc G : Nat) (L0 : List Pc) (R : List UInt8) : Prop :=
  ∃ L nl off A c, CutAt w Bc L nl off A c ∧ (∃ pre, L0 = pre ++ L) ∧ remC L off = R ∧ (∀ ad, A = some ad → ad.block = G)

theorem pc_lt {w : World} {q : Pc} (h : PcAt w q) : q.g < w.heap.size := by obtain ⟨cur, fz, hg, _⟩ := h; exact lt_of_heap hg

theorem PutAt.same {w w' : World} {base Bc Bo Bz : Nat} {C : List UInt8} (h : PutAt w base Bc Bo Bz C) (hB : Bc < base) (ho : base ≤ Bo) (hz : base ≤ Bz) (hh : ∀ i, i < w.heap.size → i ≠ Bc → w'.heap[i]? = w.heap[i]?) : PutAt w' base Bc Bo Bz C := by
  obtain ⟨A, n, c, Lp, hs, hl, hp, ht⟩ := h
  refine ⟨A, n, c, Lp, ⟨(hh _ hs.ho.lt (by omega)).trans hs.ho, (hh _ hs.hz.lt (by omega)).trans hs.hz, ⟨hs.own.1, ?_⟩⟩, hl, fun q hq => ⟨(hp q hq).1.keep (hh _ (pc_lt (hp q hq).1) (hp q hq).2.2.2), (hp q hq).2⟩, ht⟩
  rcases hs.own.2 with hn | ⟨g, cap, cur, hv, hbb, hgg, rest⟩
  · exact .inl hn
  · exact .inr ⟨g, cap, cur, hv, hbb, (hh g (lt_of_heap hgg) (by omega)).trans hgg, rest⟩

theorem CuAt.same {w w' : World} {Bc G : Nat} {L0 : List Pc} {R : List UInt8} (h : CuAt w Bc G L0 R) (hh : ∀ i, i < w.heap.size → w'.heap[i]? = w.heap[i]?) : CuAt w' Bc G L0 R := by
  obtain ⟨L, nl, off, A, c, hc, hp, hr, ha⟩ := h
  exact ⟨L, nl, off, A, c, hc.same hh, hp, hr, ha⟩

theorem pcText_len : ∀ (L : List Pc), (∀ q ∈ L, 0 < q.bs.length) → L.length ≤ (pcText L).length
  | [], _ => Nat.le_refl _
  | p :: t, h => by
    have ih := pcText_len t (fun q hq => h q (List.mem_cons_of_mem _ hq))
    have := h p (by simp)
    simp only [pcText, List.length_append, List.length_cons]
    omega
theorem pcText_append (L M : List Pc) : pcText (L ++ M) = pcText L ++ pcText M := by
  induction L with
  | nil => rfl
  | cons p t ih => simp only [List.cons_append, pcText, ih, List.append_assoc]

set_option maxHeartbeats 1000000 in
/-- Bytes are put down. -/
theorem put_hand (base Bc Bo Bz : Nat) (C : List UInt8) (g o : Nat) (bs : List UInt8) (len cap : Nat) (w : World) (h : PutAt w base Bc Bo Bz C) (hq : PcAt w ⟨g, o, bs⟩) (hlen : bs.length = len) (hg : g ≠ Bc) (hB : base ≤ w.heap.size) (hl : len ≤ cap) (hcap : cap ≤ 9223372036854775807) (hC : C.length + len ≤ 1048576) (ho : base ≤ Bo) (hz : base ≤ Bz) (hBc : Bc < base) :
    Calls Try.prog 74 #[.slice (some ⟨g, o, none⟩) len cap, .pointer (some ⟨Bo, 0, none⟩), .pointer (some ⟨Bz, 0, none⟩)] w fun e w' => e = .returned (.tuple #[]) ∧ PutAt w' base Bc Bo Bz (C ++ bs) ∧ Kc base Bo Bz Bc w w' ∧ w'.heap[Bc]? = w.heap[Bc]? := by
  obtain ⟨A, n, c, Lp, hs, hln, hp, ht⟩ := h
  have hn : n ≤ C.length := by rw [← hln, ← ht]; exact pcText_len Lp (fun q hq => (hp q hq).2.1)
  refine (hand74 base Bo Bz A n c (Lp.map Pc.val) C.length (some ⟨g, o, none⟩) len cap w hs hB (by omega) hl hcap (by omega) (by omega) (by omega)).mono ?_
  rintro e w' ⟨rfl, A', c', hs', hk, _⟩
  have hrow : ∀ i, some i = (Value.slice A n c).ownBlock → base ≤ i ∧ ∃ cs fz, w.heap[i]? = some (.cells cs 64 fz) := by
    intro i hi
    rcases hs.own.2 with ⟨hv, _⟩ | ⟨g', cap', cur, hv, hbb, hgg, _⟩
    · rw [hv] at hi; simp [Value.ownBlock] at hi
    · rw [hv] at hi
      have : i = g' := by simpa [Value.ownBlock] using hi
      subst this
      exact ⟨hbb, cur, _, hgg⟩
  have hblk : ∀ i, i < w.heap.size → i ≠ Bo → i ≠ Bz → (i < base ∨ ∃ cs t fz, w.heap[i]? = some (.cells cs t fz) ∧ t ≠ 64) → w'.heap[i]? = w.heap[i]? := by
    intro i hi h2 h3 h4
    refine hk.block i hi ?_
    rintro (h | h | h)
    · exact h2 h
    · exact h3 h
    · obtain ⟨r1, cs, fz, r2⟩ := hrow i h
      rcases h4 with h4 | ⟨cs', t, fz', h5, h6⟩
      · omega
      · rw [r2] at h5
        injection h5 with h5
        injection h5 with _ h7
        exact h6 h7.symm
  have hpk : ∀ q : Pc, PcAt w q → PcAt w' q := by
    intro q hq
    obtain ⟨cur, fz, hgg, hr⟩ := hq
    refine PcAt.keep ⟨cur, fz, hgg, hr⟩ (hblk q.g (lt_of_heap hgg) ?_ ?_ (.inr ⟨cur, 5, fz, hgg, by decide⟩))
    · intro e
      have := hs.ho
      unfold One at this
      rw [← e, hgg] at this
      injection this with this
      injection this with _ h7
      exact absurd h7 (by decide)
    · intro e
      have := hs.hz
      unfold One at this
      rw [← e, hgg] at this
      injection this with this
      injection this with _ h7
      exact absurd h7 (by decide)
  refine ⟨rfl, ?_, ⟨hk.os, hk.tape, hk.output, hk.size, fun i hi _ h2 h3 h4 => hblk i hi h2 h3 h4⟩, ?_⟩
  · by_cases h0 : len = 0
    · have hb0 : bs = [] := List.eq_nil_of_length_eq_zero (by omega)
      subst hb0
      subst h0
      simp only [pcOf, if_true, List.append_nil, List.length_nil, Nat.add_zero] at hs'
      refine ⟨A', n, c', Lp, ?_, hln, fun q hq => ⟨hpk q (hp q hq).1, (hp q hq).2⟩, by rw [List.append_nil]; exact ht⟩
      rw [List.append_nil]
      simpa using hs'
    · simp only [pcOf, if_neg h0, List.length_singleton] at hs'
      refine ⟨A', n + 1, c', Lp ++ [⟨g, o, bs⟩], ?_, by simp [hln], fun q hq => ?_, by rw [pcText_append, ht]; simp [pcText]⟩
      · rw [List.map_append, List.length_append, hlen]
        have : List.map Pc.val [(⟨g, o, bs⟩ : Pc)] = [.slice (some ⟨g, o, none⟩) len len] := by simp [Pc.val, hlen]
        rw [this]
        exact hs'
      · rcases List.mem_append.1 hq with h | h
        · exact ⟨hpk q (hp q h).1, (hp q h).2⟩
        · have : q = ⟨g, o, bs⟩ := by simpa using h
          subst this
          exact ⟨hpk _ ‹_›, by simp only; omega, by simp only; omega, hg⟩
  · rcases Nat.lt_or_ge Bc w.heap.size with h | h
    · exact hblk Bc h (by omega) (by omega) (.inl hBc)
    · omega

set_option maxHeartbeats 1000000 in
/-- The next bytes are cut off, and put down. -/
theorem sw_cut (base Bc Bo Bz G : Nat) (L0 : List Pc) (R C : List UInt8) (m0 : Nat) (w : World) (hp : PutAt w base Bc Bo Bz C) (hc : CuAt w Bc G L0 R) (hb1 : Bc < base) (hb2 : base ≤ Bo) (hb3 : base ≤ Bz) (hb4 : base ≤ w.heap.size) (hG : G < Bc) (hL : ∀ p ∈ L0, p.g < Bc) (hm : m0 ≤ R.length) (hC : C.length + m0 ≤ 1048576) :
    Calls Try.prog 64 #[.pointer (some ⟨Bc, 0, none⟩), .int .i64 m0, .func (.func 74) #[] #[.pointer (some ⟨Bo, 0, none⟩), .pointer (some ⟨Bz, 0, none⟩)]] w fun e w' => e = .returned (.tuple #[]) ∧ PutAt w' base Bc Bo Bz (C ++ R.take m0) ∧ CuAt w' Bc G L0 (R.drop m0) ∧ Kc base Bo Bz Bc w w' := by
  obtain ⟨L, nl, off, A, c, hcut, hpre, hrem, hAG⟩ := hc
  have hKL : ∀ p ∈ L, p.g < Bc := fun p h => hL p (by obtain ⟨pre, e⟩ := hpre; rw [e]; exact List.mem_append_right _ h)
  refine (cut_any Bc G 74 #[.pointer (some ⟨Bo, 0, none⟩), .pointer (some ⟨Bz, 0, none⟩)] (fun C' w' => PutAt w' base Bc Bo Bz C' ∧ Kc base Bo Bz Bc w w') (fun i => i < base) L C R m0 1048576 w ?_ hm (by omega) hC hb1 (by omega) (fun p h => by have := hKL p h; omega) (by omega) ?_ cf74 ?_).mono ?_
  · refine ⟨m0, L, nl, off, A, c, Nat.le_refl _, rfl, hcut, ⟨[], rfl⟩, ?_, by rw [Nat.sub_self, List.drop_zero]; exact hrem, hAG, fun _ _ _ => rfl, Nat.le_refl _⟩
    rw [Nat.sub_self, List.take_zero, List.append_nil]
    exact ⟨hp, Kc.refl w⟩
  · rintro q C' w1 ⟨i1, i2⟩ hq hK hne _ hl hsz
    refine (put_hand base Bc Bo Bz C' q.g q.o q.bs q.bs.length q.bs.length w1 i1 hq rfl hne (by omega) (Nat.le_refl _) (by omega) hl hb2 hb3 hb1).mono ?_
    rintro e w2 ⟨rfl, j1, j2, j3⟩
    refine ⟨rfl, ⟨j1, i2.trans j2⟩, fun i hi => ?_, j2.size⟩
    by_cases hi' : i = Bc
    · rw [hi']; exact j3
    · exact j2.block i (by omega) hi' (by omega) (by omega) (.inl hi)
  · rintro C' w1 w2 ⟨i1, i2⟩ hag hsz ho ht hout
    refine ⟨i1.same hb1 hb2 hb3 (fun i _ hn => hag i hn), i2.trans ⟨ho, ht, hout, by omega, fun i _ hn _ _ _ => hag i hn⟩⟩
  · rintro e w' ⟨rfl, m, L', nl', off', A', c', _, hi0, hcut', hpre', ⟨i1, i2⟩, hrem', hA', _, _⟩
    have hm0 : m = 0 := by injection hi0 with _ h; omega
    subst hm0
    rw [Nat.sub_zero] at i1 hrem'
    refine ⟨rfl, i1, ⟨L', nl', off', A', c', hcut', ?_, hrem', hA'⟩, i2⟩
    obtain ⟨pre, e1⟩ := hpre
    obtain ⟨pre', e2⟩ := hpre'
    exact ⟨pre ++ pre', by rw [e1, e2, List.append_assoc]⟩

set_option maxHeartbeats 1000000 in
/-- The next bytes are cut off, and told. -/
theorem sw_gather (base Bc Bo Bz G : Nat) (L0 : List Pc) (R C : List UInt8) (m0 : Nat) (w : World) (hp : PutAt w base Bc Bo Bz C) (hc : CuAt w Bc G L0 R) (hb1 : Bc < base) (hb2 : base ≤ Bo) (hb3 : base ≤ Bz) (hG : G < Bc) (hm : m0 ≤ R.length) (hm1 : m0 ≤ 1099511627776) :
    Calls Try.prog 62 #[.pointer (some ⟨Bc, 0, none⟩), .int .i64 m0] w fun e w' => e = .returned (.string ⟨(R.take m0).toArray⟩) ∧ PutAt w' base Bc Bo Bz C ∧ CuAt w' Bc G L0 (R.drop m0) ∧ Kc base Bo Bz Bc w w' := by
  obtain ⟨L, nl, off, A, c, hcut, hpre, hrem, hAG⟩ := hc
  refine (bgather_any Bc G L nl off A c R m0 w hcut hAG hrem hm hm1 (by have := lt_of_heap hcut.blk; omega) (by omega)).mono ?_
  rintro e w' ⟨rfl, L', nl', off', A', c', hcut', hpre', hrem', hA', hk⟩
  refine ⟨rfl, hp.same hb1 hb2 hb3 (fun i hi hn => hk.block i hi hn), ⟨L', nl', off', A', c', hcut', ?_, hrem', hA'⟩, Kc.of_kb hk⟩
  obtain ⟨pre, e1⟩ := hpre
  obtain ⟨pre', e2⟩ := hpre'
  exact ⟨pre ++ pre', by rw [e1, e2, List.append_assoc]⟩
end Go.Proofs.Ytpifobaejmfppaa
