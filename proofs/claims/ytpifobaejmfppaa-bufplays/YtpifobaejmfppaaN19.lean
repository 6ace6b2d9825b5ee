/- What Redo does to a buffer. -/
import Derived.Test.YtpifobaejmfppaaN18
namespace Go.Proofs.Ytpifobaejmfppaa
open Go.RowKit

theorem redo_none (N Bf : Nat) (P F : Value) (made n : Nat) (T : List UInt8) (ps : List St) (w : World) (h : HisAt w N Bf P F made n T ps []) :
    Calls Try.prog 32 #[.pointer (some ⟨Bf, 0, none⟩)] w fun e w' => e = .returned (.tuple #[.slice none 0 0, .bool false]) ∧ w' = w := by
  obtain ⟨A, c, L, ht⟩ := h.tx
  obtain ⟨pA, pc, hpv⟩ := h.fv
  subst hpv
  have c0 := ht.bf.c1
  clear h ht
  simp only [List.length_nil] at c0
  go_enter Try.func32, Try.ntmps32
  go_wp2_with fail
  refine (pop_none Bf 1 pA pc w c0).mono ?_
  rintro e w1 ⟨rfl, rfl⟩
  go_wp2
  go_ret2
  exact ⟨rfl, rfl⟩

set_option maxRecDepth 100000 in
set_option maxHeartbeats 2000000 in
theorem redo_ok (N Bf : Nat) (P F : Value) (made n : Nat) (T t : List UInt8) (l : List Ed) (ps fs : List St) (w : World) (h : HisAt w N Bf P F made n T ps ((l, t) :: fs)) (hps : ps.length < 100000) (hmd : made + l.length ≤ 1000000000) :
    Calls Try.prog 32 #[.pointer (some ⟨Bf, 0, none⟩)] w fun e w' => ∃ B d, e = .returned (.tuple #[.slice B l.length d, .bool true]) ∧ StepV w' (.slice B l.length d) l ∧ ∃ P' F', HisBack N Bf P' F' (made + l.length) t ((turn T 0 l, T) :: ps) fs P F w w' := by
  obtain ⟨A, c, L, ht⟩ := h.tx
  obtain ⟨pA, pc, hpv⟩ := h.pv
  obtain ⟨fA, fc, hfv⟩ := h.fv
  obtain ⟨vr, hpo, hpst⟩ := h.po
  obtain ⟨vf, hfo, hfst⟩ := h.fo
  subst hpv
  subst hfv
  obtain ⟨v, vf', rfl⟩ : ∃ v vf', vf = v :: vf' := by
    cases vf with
    | nil => exact hfst.elim
    | cons v vf' => exact ⟨v, vf', rfl⟩
  obtain ⟨hv, hfs'⟩ := hfst
  have hrowP := own_ne_bf hpo ht.bf (by decide)
  have hrowF := own_ne_bf hfo ht.bf (by decide)
  obtain ⟨g, rfl⟩ : ∃ g, fA = some ⟨g, 0, none⟩ := by
    rcases hfo.2 with ⟨hv, h0⟩ | ⟨g, cap, cur, hv, _⟩
    · simp at h0
    · injection hv with hv; exact ⟨g, hv⟩
  rw [List.reverse_cons, List.length_cons] at hfo
  obtain ⟨hown1, hcg, hfg, hkc, hcm⟩ := own_pop hfo
  have hgB : g ≠ Bf := fun e => hrowF (by rw [e]; rfl)
  obtain ⟨hR, hap, htl, hll, hch⟩ := h.fch
  simp only at hR hap htl hll hch
  have hmk := h.mkd
  have hN := h.sz
  have hmx := h.mx
  have c0 := ht.bf.c1
  rw [List.length_cons] at c0
  have f0 := ht.bf.fz 1
  obtain ⟨B, d, rfl, hvo⟩ := hv
  -- the world behind pop
  obtain ⟨w1, hw1⟩ : ∃ w1, w1 = (w.setCell ⟨g, fs.length, none⟩ (.slice none 0 0)).setCell ⟨Bf, 1, none⟩ (.slice (some ⟨g, 0, none⟩) fs.length fc) := ⟨_, rfl⟩
  have hkb0 : Kb (fun i => i = Bf ∨ i = g) w w1 := by
    rw [hw1]
    exact ((Kb.setCell w ⟨g, fs.length, none⟩ _).wider (fun i h => .inr h)).trans (Kb.setCell _ ⟨Bf, 1, none⟩ _) (fun i _ h => .inl h)
  have hkb1 : Kb (Mt Bf (.slice pA ps.length pc) (.slice (some ⟨g, 0, none⟩) (fs.length + 1) fc)) w w1 := hkb0.wider (fun i h => h.elim .inl (fun h => .inr (.inr (by rw [h]; rfl))))
  have hkt1 : KT w w1 := h.kt hkb1
  have hbf1 : BfAt w1 Bf (.slice pA ps.length pc) (.slice (some ⟨g, 0, none⟩) fs.length fc) made (.slice A n c) T.length := by
    rw [hw1]
    exact (ht.bf.kb (Kb.setCell w ⟨g, fs.length, none⟩ (.slice none 0 0)) (fun e => hgB e.symm)).s1 _
  have htx1 : TxAt w1 N Bf (.slice pA ps.length pc) (.slice (some ⟨g, 0, none⟩) fs.length fc) made A n c L T := ht.kt hkt1 hbf1
  have hfo1 : w1.ownsRow N 22 1 (.slice (some ⟨g, 0, none⟩) fs.length fc) fs.length vf'.reverse := by
    rw [hw1]
    exact own_kb hown1 (Kb.setCell _ ⟨Bf, 1, none⟩ _) (fun q hq he => hrowF (by rw [show q = Bf from he] at hq; exact hq.symm))
  have hpo1 : w1.ownsRow N 22 1 (.slice pA ps.length pc) ps.length vr.reverse := own_kb hpo hkb0 (fun q hq he => by
    rcases he with he | he
    · exact hrowP (by rw [hq, he])
    · exact h.ne q hq (by rw [he]; rfl))
  have hE1 : EdsAt w1 w1.heap.size B l := eds_of_own (hkt1.own hvo (by decide) (by decide))
  obtain ⟨hld, hdm⟩ := own_cap hvo
  have HSW := Lib.hid (swap_any N Bf (.slice pA ps.length pc) (.slice (some ⟨g, 0, none⟩) fs.length fc) made A n c L T B l.length d l w1.drew (htx1.kt (fun i cs t fz hi _ _ => hi) htx1.bf) (Nat.le_trans hN hkb1.size) rfl hld hdm hll (hE1.keep fun _ _ => rfl) hR h.tl (by rw [hap]; exact htl))
  have HUN := Lib.hid (fun (A2 : Option Addr) (c2 : Nat) (pcv : Value) (sz : Int) (w3 : World) (hb3 : BfAt w3 Bf (.slice pA ps.length pc) (.slice (some ⟨g, 0, none⟩) fs.length fc) made pcv sz) (hk3 : Kb (fun i => i = Bf) w1 w3) => redone_any Bf pA ps.length pc N vr.reverse (.slice (some ⟨g, 0, none⟩) fs.length fc) pcv made sz A2 l.length c2 w3 hb3 (own_kb hpo1 hk3 (fun q hq he => own_ne_bf hpo1 hbf1 (by decide) (by rw [hq, he]))) (Nat.le_trans hN (Nat.le_trans hkb1.size hk3.size)) (by omega) (by omega) (by omega) (by omega))
  have HK1 := Lib.hid (show ∀ w3, Kb (fun i => i = Bf) w1.drew w3 → Kb (fun i => i = Bf) w1 w3 from fun w3 hk3 => ⟨hk3.os, hk3.tape, hk3.output, hk3.size, hk3.block⟩)
  have HPOP := Lib.hid (pop_some Bf 1 g fs.length fc (.slice B l.length d) B l.length d rfl w c0 f0 hkc hcm hcg hfg hgB)
  have HX := Lib.hid (And.intro hkb0 (And.intro hkb1 (And.intro hkt1 (And.intro htx1 (And.intro hpo1 (And.intro hfo1 (And.intro hbf1 (And.intro hpst (And.intro hfs' (And.intro hvo (And.intro hR hch)))))))))))
  have HH := Lib.hid h
  have HW := Lib.hid hw1
  have HAP := Lib.hid hap
  clear h hw1 hkb0 hkb1 hkt1 htx1 hpo1 hfo1 hbf1 hpst hfs' hvo hR hch hap hown1 hcg hfg hpo hfo ht hrowP hrowF hE1 c0 f0
  go_enter Try.func32, Try.ntmps32
  go_wp2_with fail
  refine HPOP.out.mono ?_
  rintro e w1' ⟨rfl, hw⟩
  rw [← HW.out] at hw
  have hw' := hw.symm
  clear hw
  subst hw'
  clear HW HPOP
  go_wp2_with fail
  go_region_with (first | (go_at_call 57; (with_reducible refine HSW.out.mono ?_); rintro e w3 ⟨A2, c2, A', c', L', rfl, htx3, hown3, hk3⟩) | (go_at_call 61; (with_reducible refine (HUN.out A2 c2 _ _ w3 htx3.bf (HK1.out w3 hk3)).mono ?_); rintro e w4 ⟨rfl, g4, c4', hb4, ho4, hk4, hg4⟩))
  have hk13 := HK1.out w3 hk3
  obtain ⟨hkb0, hkb1, hkt1, htx1, hpo1, hfo1, hbf1, hpst, hfs', hvo, hR, hch⟩ := HX.out
  have hkt3 : KT w1 w3 := bf_kt hbf1 hk13
  have hpo3 := own_kb hpo1 hk13 (fun q hq he => own_ne_bf hpo1 hbf1 (by decide) (by rw [hq, he]))
  have hkt4 : KT w3 w4 := row_kt htx3.bf hpo3 hk4
  have hmade : (made : Int) + (l.length : Int) = ((made + l.length : Nat) : Int) := by omega
  rw [hmade] at hb4
  have htx4 : TxAt w4 N Bf (.slice (some ⟨g4, 0, none⟩) (ps.length + 1) c4') (.slice (some ⟨g, 0, none⟩) fs.length fc) ((made + l.length : Nat) : Int) A' L'.length c' L' (appl T 0 l) := htx3.kt hkt4 hb4
  have hst4 : StepV w4 (.slice A2 l.length c2) (turn T 0 l) := (step_of_len hown3 (turn_len T l 0)).kt hkt4
  have hfo4 : w4.ownsRow N 22 1 (.slice (some ⟨g, 0, none⟩) fs.length fc) fs.length vf'.reverse := own_kb (own_kb hfo1 hk13 (fun q hq he => own_ne_bf hfo1 hbf1 (by decide) (by rw [hq, he]))) hk4 (fun q hq he => by
    rcases he with he | he
    · exact own_ne_bf hfo1 hbf1 (by decide) (by rw [hq, he])
    · exact HH.out.ne q he.symm hq)
  have HT4 := Lib.hid htx4
  have HX4 := Lib.hid (And.intro hk13 (And.intro hkt3 (And.intro hkt4 (And.intro ho4 (And.intro hk4 (And.intro hg4 (And.intro hst4 hfo4)))))))
  have hN4 : N ≤ w4.heap.size := Nat.le_trans (Nat.le_trans (Nat.le_trans hN hkb1.size) hk13.size) hk4.size
  clear hkb0 hkb1 hkt1 htx1 hpo1 hfo1 hbf1 hpst hfs' hvo hR hch hk13 hkt3 hkt4 hmade htx4 hst4 ho4 hk4 hg4 hb4 htx3 hown3 hk3 HUN HSW HK1 hpo3 hfo4
  go_wp2_with fail
  refine (tidy_any N Bf L'.length c' A' _ _ (made + l.length) L' (appl T 0 l) w4 HT4.out hN4 (by omega) (by rw [HAP.out]; exact htl)).mono ?_
  rintro e w5 ⟨rfl, A5, c5, L5, htx5, hn5, hk5⟩
  have HT5 := Lib.hid htx5; have HK5 := Lib.hid hk5
  clear htx5 hk5
  go_wp2
  go_ret2
  obtain ⟨hkb0, hkb1, hkt1, htx1, hpo1, hfo1, hbf1, hpst, hfs', hvo, hR, hch⟩ := HX.out
  obtain ⟨hk13, hkt3, hkt4, ho4, hk4, hg4, hst4, hfo4⟩ := HX4.out
  have hkt5 := bf_kt HT4.out.bf HK5.out
  have hkt := ((hkt1.trans hkt3).trans hkt4).trans hkt5
  have hne := own_ne_bf ho4 HT4.out.bf (by decide)
  have hne' := own_ne_bf hfo4 HT4.out.bf (by decide)
  have hap := HAP.out
  have htx5 := HT5.out
  rw [hap] at htx5
  have hchain := turn_chain HH.out.tl hll hR HH.out.pch
  rw [hap] at hchain
  refine ⟨B, d, rfl, ⟨B, d, rfl, hkt.own hvo (by decide) (by decide)⟩, .slice (some ⟨g4, 0, none⟩) (ps.length + 1) c4', .slice (some ⟨g, 0, none⟩) fs.length fc, L5.length, ⟨⟨A5, c5, L5, htx5⟩, ⟨_, _, rfl⟩, ⟨_, _, rfl⟩, ⟨.slice A2 l.length c2 :: vr, ?_, hst4.kt hkt5, hpst.kt hkt⟩, ⟨vf', own_kb hfo4 HK5.out (fun g hg he => hne' (by rw [hg, he])), hfs'.kt hkt⟩, ?_, hchain, hch, ?_, hmd, htl, HH.out.lo, Nat.le_trans hN4 HK5.out.size⟩, hn5, ?_, ?_⟩
  · rw [List.reverse_cons]
    exact own_kb ho4 HK5.out (fun g hg he => hne (by rw [hg, he]))
  · intro q hq he
    have h1 : g4 = q := by simpa [Value.ownBlock] using hq
    have h2 : g = q := by simpa [Value.ownBlock] using he
    rcases hg4 with h' | h'
    · exact HH.out.ne q (by rw [h', h1]) (by rw [← h2]; rfl)
    · have := (hfo1.lt g rfl).2
      have := hk13.size
      omega
  · rw [lens_cons]
    simp only [turn_len]
    omega
  · have k2 := (hkb1.trans hk13 (fun i _ h => .inl h)).trans hk4 (fun i _ h => h.elim .inl (fun h => .inr (.inl h)))
    exact k2.trans HK5.out (fun i _ h => .inl h)
  · rintro i (h | h | h)
    · exact .inl (.inl h)
    · have hi : i = g4 := by simpa [Value.ownBlock] using h
      rcases hg4 with h' | h'
      · exact .inl (.inr (.inl (by rw [h', hi])))
      · exact .inr (by have := hkb1.size; have := hk13.size; omega)
    · exact .inl (.inr (.inr h))
end Go.Proofs.Ytpifobaejmfppaa
