/- Pieces of a text in memory, and a cutter that goes through them. -/
import Derived.Test.YtpifobaejmfppaaN4
import Derived.Test.YtpifobaejmfppaaV
namespace Go.Proofs.Ytpifobaejmfppaa
open Go.RowKit

/-- A piece: bytes of a block, from a place on. -/
structure Pc where
  g : Nat
  o : Nat
  bs : List UInt8

def Pc.val (p : Pc) : Value := .slice (some ⟨p.g, p.o, none⟩) p.bs.length p.bs.length
/-- Some bytes of a piece. -/
def Pc.part (p : Pc) (a k : Nat) : Pc := ⟨p.g, p.o + a, (p.bs.drop a).take k⟩

def PcAt (w : World) (p : Pc) : Prop := ∃ cur fz, w.heap[p.g]? = some (.cells cur 5 fz) ∧ ∀ i b, p.bs[i]? = some b → cur[p.o + i]? = some (.int .u8 b.toNat)

theorem PcAt.part {w : World} {p : Pc} (h : PcAt w p) (a k : Nat) : PcAt w (p.part a k) := by
  obtain ⟨cur, fz, hg, hb⟩ := h
  refine ⟨cur, fz, hg, fun i b hi => ?_⟩
  have hi' : ((p.bs.drop a).take k)[i]? = some b := hi
  rw [List.getElem?_take] at hi'
  split at hi'
  · rw [List.getElem?_drop] at hi'
    have := hb (a + i) b hi'
    show cur[p.o + a + i]? = _
    rw [Nat.add_assoc]; exact this
  · simp at hi'

theorem PcAt.keep {w w' : World} {p : Pc} (h : PcAt w p) (hk : w'.heap[p.g]? = w.heap[p.g]?) : PcAt w' p := by
  obtain ⟨cur, fz, hg, hb⟩ := h
  exact ⟨cur, fz, hk.trans hg, hb⟩

/-- Pieces that a slice shows. -/
def PcsS (w : World) (A : Option Addr) (L : List Pc) : Prop :=
  L ≠ [] → ∃ g o cur fz, A = some ⟨g, o, none⟩ ∧ w.heap[g]? = some (.cells cur 64 fz) ∧ ∀ i p, L[i]? = some p → cur[o + i]? = some p.val

def pcText : List Pc → List UInt8
  | [] => []
  | p :: t => p.bs ++ pcText t

def remC : List Pc → Nat → List UInt8
  | [], _ => []
  | p :: t, off => p.bs.drop off ++ pcText t

/-- A cutter, as it lies. -/
structure CutAt (w : World) (Bc : Nat) (L : List Pc) (nl off : Nat) (A : Option Addr) (c : Nat) : Prop where
  blk : w.heap[Bc]? = some (.cells #[.slice A nl c, .int .i64 off] 99 (0, 0))
  len : L.length = nl
  cap : nl ≤ c
  mx : c ≤ 9223372036854775807
  pcs : PcsS w A L
  at' : ∀ p ∈ L, PcAt w p ∧ 0 < p.bs.length ∧ p.bs.length ≤ 1099511627776
  off : ∀ p t, L = p :: t → off < p.bs.length

/-- What the loop of cut keeps. -/
def CutRel (Bc G : Nat) (I : List UInt8 → World → Prop) (K : Nat → Prop) (L0 : List Pc) (C R : List UInt8) (m0 : Nat) (w0 : World) (i : Value) (w : World) : Prop :=
  ∃ m L nl off A c, m ≤ m0 ∧ i = .int .i64 m ∧ CutAt w Bc L nl off A c ∧ (∃ pre, L0 = pre ++ L) ∧ I (C ++ R.take (m0 - m)) w ∧ remC L off = R.drop (m0 - m) ∧ (∀ ad, A = some ad → ad.block = G) ∧ (∀ i, K i → i ≠ Bc → w.heap[i]? = w0.heap[i]?) ∧ w0.heap.size ≤ w.heap.size

theorem pc_ne {w : World} {Bc : Nat} {p : Pc} {x y : Value} (h : PcAt w p) (hb : w.heap[Bc]? = some (.cells #[x, y] 99 (0, 0))) : p.g ≠ Bc := by
  obtain ⟨cur, fz, hg, _⟩ := h
  rintro rfl
  rw [hg] at hb
  injection hb with hb
  injection hb with _ h2
  exact absurd h2 (by decide)

/-- The cutter stands as it stood, but for how many bytes are cut off. -/
theorem CutAt.on {wr wf : World} {Bc G nl off off' o c : Nat} {p : Pc} {t : List Pc} (h : CutAt wr Bc (p :: t) nl off (some ⟨G, o, none⟩) c) (hblk : wf.heap[Bc]? = some (.cells #[.slice (some ⟨G, o, none⟩) nl c, .int .i64 off'] 99 (0, 0))) (hG : wf.heap[G]? = wr.heap[G]?) (hp : ∀ q ∈ p :: t, wf.heap[q.g]? = wr.heap[q.g]?) (ho : off' < p.bs.length) : CutAt wf Bc (p :: t) nl off' (some ⟨G, o, none⟩) c := by
  refine ⟨hblk, h.len, h.cap, h.mx, ?_, fun q hq => ⟨(h.at' q hq).1.keep (hp q hq), (h.at' q hq).2⟩, fun q t' e => by injection e with e1 _; subst e1; exact ho⟩
  intro hne
  obtain ⟨g, o', cur, fz, hA, hg, hr⟩ := h.pcs hne
  have hgG : G = g := by simp at hA; exact hA.1
  subst hgG
  exact ⟨G, o', cur, fz, hA, hG.trans hg, hr⟩

/-- The cutter stands at the next piece. -/
theorem CutAt.next {wr wf : World} {Bc G nl off o c c' : Nat} {A' : Option Addr} {p : Pc} {t : List Pc} (h : CutAt wr Bc (p :: t) nl off (some ⟨G, o, none⟩) c) (hblk : wf.heap[Bc]? = some (.cells #[.slice A' (nl - 1) c', .int .i64 0] 99 (0, 0))) (hG : wf.heap[G]? = wr.heap[G]?) (hp : ∀ q ∈ p :: t, wf.heap[q.g]? = wr.heap[q.g]?) (hA' : t ≠ [] → A' = some ⟨G, o + 1, none⟩) (hc : nl - 1 ≤ c') (hc' : c' ≤ 9223372036854775807) : CutAt wf Bc t (nl - 1) 0 A' c' := by
  have hl := h.len
  simp at hl
  refine ⟨hblk, by omega, hc, hc', ?_, fun q hq => ⟨(h.at' q (List.mem_cons_of_mem _ hq)).1.keep (hp q (List.mem_cons_of_mem _ hq)), (h.at' q (List.mem_cons_of_mem _ hq)).2⟩, fun q t' e => (h.at' q (by rw [e]; simp)).2.1⟩
  intro hne
  obtain ⟨g, o', cur, fz, hA, hg, hr⟩ := h.pcs (by simp)
  have hgG : G = g ∧ o = o' := by simp at hA; exact hA
  obtain ⟨rfl, rfl⟩ := hgG
  refine ⟨G, o + 1, cur, fz, hA' hne, hG.trans hg, fun i q hi => ?_⟩
  have := hr (i + 1) q (by simpa using hi)
  rw [show o + (i + 1) = o + 1 + i by omega] at this
  exact this

theorem cut_close {Bc G : Nat} {I : List UInt8 → World → Prop} {K : Nat → Prop} {L0 : List Pc} {C R : List UInt8} {m0 m k : Nat} {w0 wr w5 wf : World} {q : Pc} {L' : List Pc} {nl' off' : Nat} {A' : Option Addr} {c' : Nat}
    (hmm : m ≤ m0) (hkm : k ≤ m) (hI5 : I ((C ++ R.take (m0 - m)) ++ q.bs) w5)
    (hIc : ∀ C' w1 w2, I C' w1 → (∀ i, i ≠ Bc → w2.heap[i]? = w1.heap[i]?) → w2.heap.size = w1.heap.size → w2.os = w1.os → w2.tape = w1.tape → w2.output = w1.output → I C' w2)
    (hfr : ∀ i, K i → i ≠ Bc → wr.heap[i]? = w0.heap[i]?) (hfr5 : ∀ i, K i → w5.heap[i]? = wr.heap[i]?) (hag : ∀ i, i ≠ Bc → wf.heap[i]? = w5.heap[i]?) (hszf : wf.heap.size = w5.heap.size) (ho : wf.os = w5.os) (ht : wf.tape = w5.tape) (hout : wf.output = w5.output)
    (hq : q.bs = (R.drop (m0 - m)).take k) (hcut : CutAt wf Bc L' nl' off' A' c') (hpre : ∃ pre, L0 = pre ++ L') (hrem : remC L' off' = (R.drop (m0 - m)).drop k) (hA : ∀ ad, A' = some ad → ad.block = G) (hsz : w0.heap.size ≤ wr.heap.size) (hsz5 : wr.heap.size ≤ w5.heap.size) :
    CutRel Bc G I K L0 C R m0 w0 (.int .i64 ((m : Int) - (k : Int))) wf := by
  refine ⟨m - k, L', nl', off', A', c', by omega, congrArg _ (by omega), hcut, hpre, ?_, ?_, hA, fun i hi hn => (hag i hn).trans ((hfr5 i hi).trans (hfr i hi hn)), by omega⟩
  · rw [show m0 - (m - k) = (m0 - m) + k by omega, List.take_add, ← List.append_assoc, ← hq]
    exact hIc _ w5 wf hI5 hag hszf ho ht hout
  · rw [show m0 - (m - k) = (m0 - m) + k by omega, ← List.drop_drop]; exact hrem

theorem remC_step (p : Pc) (t : List Pc) (off k : Nat) (hk : off + k ≤ p.bs.length) :
    (p.part off k).bs = (remC (p :: t) off).take k ∧ remC (p :: t) (off + k) = (remC (p :: t) off).drop k ∧ (off + k = p.bs.length → remC t 0 = (remC (p :: t) off).drop k) := by
  have e1 : (remC (p :: t) off).drop k = p.bs.drop (off + k) ++ pcText t := by
    unfold remC
    rw [List.drop_append_of_le_length (by rw [List.length_drop]; omega), List.drop_drop]
  refine ⟨?_, by rw [e1]; rfl, fun he => ?_⟩
  · unfold remC
    rw [List.take_append_of_le_length (by rw [List.length_drop]; omega)]
    rfl
  · rw [e1, List.drop_of_length_le (by omega), List.nil_append]
    cases t with
    | nil => rfl
    | cons x y => simp [remC, pcText]

set_option maxRecDepth 100000 in
set_option maxHeartbeats 4000000 in
theorem cut_any (Bc G fn : Nat) (caps : Array Value) (I : List UInt8 → World → Prop) (K : Nat → Prop) (L0 : List Pc) (C R : List UInt8) (m0 Cmax : Nat) (w : World)
    (hst : CutRel Bc G I K L0 C R m0 w (.int .i64 m0) w) (hm : m0 ≤ R.length) (hm1 : m0 ≤ 1099511627776) (hC : C.length + m0 ≤ Cmax) (hKb : K Bc) (hKG : K G) (hKL : ∀ p ∈ L0, K p.g) (hGB : G ≠ Bc)
    (hH : ∀ (q : Pc) (C' : List UInt8) (w1 : World), I C' w1 → PcAt w1 q → K q.g → q.g ≠ Bc → 0 < q.bs.length → C'.length + q.bs.length ≤ Cmax → w.heap.size ≤ w1.heap.size → Calls Try.prog fn (#[q.val] ++ caps) w1 fun e w' => e = .returned (.tuple #[]) ∧ I (C' ++ q.bs) w' ∧ (∀ i, K i → w'.heap[i]? = w1.heap[i]?) ∧ w1.heap.size ≤ w'.heap.size)
    (hcf : ∀ (args : Array Value) (w : World), Sem.run Try.prog (callFunc fn args) w = .ok (.enter fn args) w)
    (hIc : ∀ C' w1 w2, I C' w1 → (∀ i, i ≠ Bc → w2.heap[i]? = w1.heap[i]?) → w2.heap.size = w1.heap.size → w2.os = w1.os → w2.tape = w1.tape → w2.output = w1.output → I C' w2) :
    Calls Try.prog 64 #[.pointer (some ⟨Bc, 0, none⟩), .int .i64 m0, .func (.func fn) #[] caps] w fun e w' => e = .returned (.tuple #[]) ∧ CutRel Bc G I K L0 C R m0 w (.int .i64 0) w' := by
  have HST := Lib.hid hst; have HH := Lib.hid hH; have HIC := Lib.hid hIc; have HKL := Lib.hid hKL
  clear hst hH hIc hKL
  go_enter Try.func64, Try.ntmps64
  go_wp2_with fail
  go_loopw [1] (fun i wr => Hid (CutRel Bc G I K L0 C R m0 w i wr)) (fun i _ => (intOf i).toNat)
  case atStart => exact HST.out
  case round =>
    clear HST
    obtain ⟨m, L, nl, off, A, c, hmm, rfl, hcut, hpre, hI, hrem, hAG, hfr, hsz⟩ := hrel.out
    rcases Nat.eq_zero_or_pos m with h0 | h0
    · subst h0
      have HF := hrel
      clear hrel hcut hpre hI hrem hAG hfr hsz
      go_wp2
      go_end0
      exact ⟨rfl, HF.out⟩
    · have hRl : (R.drop (m0 - m)).length = R.length - (m0 - m) := List.length_drop ..
      obtain ⟨p, t, hp⟩ : ∃ p t, L = p :: t := by
        cases L with
        | nil => exfalso; rw [← hrem] at hRl; simp [remC] at hRl; omega
        | cons p t => exact ⟨p, t, rfl⟩
      subst hp
      obtain ⟨g, o, cur, fz, hA, hg, hcur⟩ := hcut.pcs (by simp)
      have e0 := hcur 0 p rfl
      rw [Nat.add_zero] at e0
      unfold Pc.val at e0
      subst hA
      have hgG : g = G := hAG _ rfl
      subst hgG
      have cb0 : wr.cell? ⟨Bc, 0, none⟩ = some (.slice (some ⟨g, o, none⟩) nl c) := by rw [Lib.cell_of_heap hcut.blk]; rfl
      have cb1 : wr.cell? ⟨Bc, 1, none⟩ = some (.int .i64 off) := by rw [Lib.cell_of_heap hcut.blk]; rfl
      have cg0 : wr.cell? ⟨g, o, none⟩ = some (.slice (some ⟨p.g, p.o, none⟩) p.bs.length p.bs.length) := by rw [Lib.cell_of_heap hg]; exact e0
      have ho := hcut.off p t rfl
      have hnl : nl = t.length + 1 := by rw [← hcut.len]; rfl
      obtain ⟨hpat, hpl0, hpl1⟩ := hcut.at' p (by simp)
      obtain ⟨pl, hpl'⟩ : ∃ pl, pl = p.bs.length := ⟨_, rfl⟩
      rw [← hpl'] at cg0 ho hpl0 hpl1
      obtain ⟨d, hd⟩ : ∃ d, d = pl - off := ⟨_, rfl⟩
      have hd1 : 0 < d := by omega
      have hd2 : off + d = pl := by omega
      obtain ⟨k, hkd⟩ : ∃ k, k = min m d := ⟨_, rfl⟩
      have hkm : k ≤ m := by omega
      have hk0 : 0 < k := by omega
      have hkd' : k ≤ d := by omega
      have p2 : min (m : Int) (d : Int) = (k : Int) := by omega
      have hnl2 : (0 : Int) < nl := by omega
      have hnl1 : 0 < nl := by omega
      have hof : pl - off = d := by omega
      have hofc : off ≠ pl := by omega
      have HCUT := Lib.hid hcut; have HPRE := Lib.hid hpre; have HI := Lib.hid hI; have HREM := Lib.hid hrem; have HFR := Lib.hid hfr; have HPAT := Lib.hid hpat; have HNL := Lib.hid hnl; have HPL := Lib.hid hpl'
      clear hcur hg e0 hkd hcut hpre hI hrem hAG hfr hpat hnl hpl' hd hrel hRl
      have u1 : (off : Int) ≤ (pl : Int) := by omega
      have u2 : (0 : Int) ≤ (off : Int) := by omega
      have u3 : (k : Int) ≤ (d : Int) := by omega
      have u4 : (0 : Int) ≤ (k : Int) := by omega
      go_wp2_with fail
      go_quiet (fail)
      go_wp2_with fail
      have hpv : (p.part off k).val = .slice (some ⟨p.g, p.o + off, none⟩) k k := by
        have hl : ((p.bs.drop off).take k).length = k := by rw [List.length_take, List.length_drop, ← HPL.out]; omega
        unfold Pc.val Pc.part; rw [hl]
      have hql : (p.part off k).bs.length = k := by show ((p.bs.drop off).take k).length = k; rw [List.length_take, List.length_drop, ← HPL.out]; omega
      have hcall := HH.out (p.part off k) (C ++ R.take (m0 - m)) (wr.drewN nq) (HIC.out _ wr _ HI.out (fun _ _ => rfl) rfl rfl rfl rfl) ((HPAT.out.part off k).keep rfl) (show K p.g by obtain ⟨pre, hp⟩ := HPRE.out; exact HKL.out p (by rw [hp]; simp)) (pc_ne (HPAT.out.part off k) HCUT.out.blk) (by omega) (by rw [hql, List.length_append, List.length_take]; omega) hsz
      rw [hpv] at hcall
      refine hcall.mono ?_
      rintro x1 w5 ⟨rfl, hI5, hfr5, hsz5⟩
      have rb5 : w5.heap[Bc]? = some (.cells #[.slice (some ⟨g, o, none⟩) nl c, .int .i64 off] 99 (0, 0)) := (hfr5 Bc hKb).trans HCUT.out.blk
      have cc0 : w5.cell? ⟨Bc, 0, none⟩ = some (.slice (some ⟨g, o, none⟩) nl c) := by rw [Lib.cell_of_heap rb5]; rfl
      have cc1 : w5.cell? ⟨Bc, 1, none⟩ = some (.int .i64 off) := by rw [Lib.cell_of_heap rb5]; rfl
      have ff0 : w5.frozen? ⟨Bc, 0, none⟩ = false := Lib.frozen_of_heap rb5 0
      have ff1 : w5.frozen? ⟨Bc, 1, none⟩ = false := Lib.frozen_of_heap rb5 1
      have HFA := Lib.hid (And.intro hI5 (And.intro hfr5 (And.intro hsz5 rb5)))
      have v1 : IntKind.i64.wrap ((off : Int) + (k : Int)) = (off : Int) + (k : Int) := IntWalk.i64_in _ (by omega)
      have v2 : IntKind.i64.wrap ((m : Int) - (k : Int)) = (m : Int) - (k : Int) := IntWalk.i64_in _ (by omega)
      clear hI5 hfr5 hsz5 rb5 hcall cb0 cb1 cg0 p2 hpv
      have HQL := Lib.hid hql; clear hql
      by_cases hend : k = d
      · have q1 : ((k : Int) == (d : Int)) = true := by rw [beq_iff_eq]; omega
        have HEN := Lib.hid hend; clear hend
        go_wp2_with fail
        by_cases hc1 : c = 1
        · subst hc1
          go_wp2_with fail
          refine ⟨?_, by simp [intOf]; omega⟩
          obtain ⟨hI5, hfr5, hsz5, rb5⟩ := HFA.out
          obtain ⟨s1, _, s3⟩ := remC_step p t off k (by have := HPL.out; omega)
          rw [HREM.out] at s1 s3
          have hoff : off + k = p.bs.length := by have := HPL.out; have := HEN.out; omega
          have hpL : ∀ q ∈ p :: t, K q.g := fun q hq => by obtain ⟨pre, hp⟩ := HPRE.out; exact HKL.out q (by rw [hp]; exact List.mem_append_right _ hq)
          have hqn : ∀ q ∈ p :: t, q.g ≠ Bc := fun q hq => pc_ne (HCUT.out.at' q hq).1 HCUT.out.blk
          have hpre' : ∃ pre, L0 = pre ++ t := by obtain ⟨pre, hp⟩ := HPRE.out; exact ⟨pre ++ [p], by rw [hp]; simp⟩
          have hnn := HNL.out
          have hcp := HCUT.out.cap
          have hmx := HCUT.out.mx
          have ht0 : t = [] := List.eq_nil_of_length_eq_zero (by omega)
          have hag : ∀ i, i ≠ Bc → (((w5.setCell ⟨Bc, 1, none⟩ (.int .i64 ((off : Int) + k))).setCell ⟨Bc, 0, none⟩ (.slice (some ⟨g, o, none⟩) (nl - 1) 0)).setCell ⟨Bc, 1, none⟩ (.int .i64 0)).heap[i]? = w5.heap[i]? := fun i hi => set3_other w5 Bc i _ _ _ 0 hi
          exact cut_close hmm hkm hI5 HIC.out HFR.out hfr5 hag (set3_size w5 Bc _ _ _ 0) rfl rfl rfl s1 (HCUT.out.next (set3_blk w5 Bc _ _ _ 0 rb5) ((hag g hGB).trans (hfr5 g hKG)) (fun q hq => (hag q.g (hqn q hq)).trans (hfr5 _ (hpL q hq))) (fun h => absurd ht0 h) (by omega) (by omega)) hpre' (s3 hoff) (fun ad h => by injection h with h; rw [← h]) hsz hsz5
        · go_wp2_with fail
          refine ⟨?_, by simp [intOf]; omega⟩
          obtain ⟨hI5, hfr5, hsz5, rb5⟩ := HFA.out
          obtain ⟨s1, _, s3⟩ := remC_step p t off k (by have := HPL.out; omega)
          rw [HREM.out] at s1 s3
          have hoff : off + k = p.bs.length := by have := HPL.out; have := HEN.out; omega
          have hpL : ∀ q ∈ p :: t, K q.g := fun q hq => by obtain ⟨pre, hp⟩ := HPRE.out; exact HKL.out q (by rw [hp]; exact List.mem_append_right _ hq)
          have hqn : ∀ q ∈ p :: t, q.g ≠ Bc := fun q hq => pc_ne (HCUT.out.at' q hq).1 HCUT.out.blk
          have hpre' : ∃ pre, L0 = pre ++ t := by obtain ⟨pre, hp⟩ := HPRE.out; exact ⟨pre ++ [p], by rw [hp]; simp⟩
          have hnn := HNL.out
          have hcp := HCUT.out.cap
          have hmx := HCUT.out.mx
          have hag : ∀ i, i ≠ Bc → (((w5.setCell ⟨Bc, 1, none⟩ (.int .i64 ((off : Int) + k))).setCell ⟨Bc, 0, none⟩ (.slice (some ⟨g, o + 1, none⟩) (nl - 1) (c - 1))).setCell ⟨Bc, 1, none⟩ (.int .i64 0)).heap[i]? = w5.heap[i]? := fun i hi => set3_other w5 Bc i _ _ _ 0 hi
          exact cut_close hmm hkm hI5 HIC.out HFR.out hfr5 hag (set3_size w5 Bc _ _ _ 0) rfl rfl rfl s1 (HCUT.out.next (set3_blk w5 Bc _ _ _ 0 rb5) ((hag g hGB).trans (hfr5 g hKG)) (fun q hq => (hag q.g (hqn q hq)).trans (hfr5 _ (hpL q hq))) (fun _ => rfl) (by omega) (by omega)) hpre' (s3 hoff) (fun ad h => by injection h with h; rw [← h]) hsz hsz5
      · have q1 : ((k : Int) == (d : Int)) = false := by rw [beq_eq_false_iff_ne]; omega
        have hlt : off + k < p.bs.length := by have := HPL.out; omega
        have HLT := Lib.hid hlt; clear hlt
        have HEN := Lib.hid hend; clear hend
        go_wp2_with fail
        refine ⟨?_, by simp [intOf]; omega⟩
        obtain ⟨hI5, hfr5, hsz5, rb5⟩ := HFA.out
        obtain ⟨s1, s2, _⟩ := remC_step p t off k (by have := HLT.out; omega)
        rw [HREM.out] at s1 s2
        have hpL : ∀ q ∈ p :: t, K q.g := fun q hq => by obtain ⟨pre, hp⟩ := HPRE.out; exact HKL.out q (by rw [hp]; exact List.mem_append_right _ hq)
        have hqn : ∀ q ∈ p :: t, q.g ≠ Bc := fun q hq => pc_ne (HCUT.out.at' q hq).1 HCUT.out.blk
        have hcast : (.int .i64 ((off : Int) + (k : Int)) : Value) = .int .i64 ((off + k : Nat) : Int) := congrArg _ (by omega)
        have hag : ∀ i, i ≠ Bc → (w5.setCell ⟨Bc, 1, none⟩ (.int .i64 ((off : Int) + k))).heap[i]? = w5.heap[i]? := fun i hi => Below.heap_setCell w5 ⟨Bc, 1, none⟩ _ i hi
        exact cut_close hmm hkm hI5 HIC.out HFR.out hfr5 hag (by simp [World.setCell]) rfl rfl rfl s1 (HCUT.out.on (by rw [hcast]; exact set1_blk w5 Bc _ 0 rb5) ((hag g hGB).trans (hfr5 g hKG)) (fun q hq => (hag q.g (hqn q hq)).trans (hfr5 _ (hpL q hq))) HLT.out) HPRE.out s2 (fun ad h => by injection h with h; rw [← h]) hsz hsz5
end Go.Proofs.Ytpifobaejmfppaa
