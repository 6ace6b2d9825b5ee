/- What Apply does where a step is forgotten. -/
import Derived.Test.YtpifobaejmfppaaN24
namespace Go.Proofs.Ytpifobaejmfppaa
open Go.RowKit

theorem steps_dropLast {w : World} : ∀ {vs : List Value} {ss : List St}, Steps w vs ss → Steps w vs.dropLast ss.dropLast
  | [], [], _ => trivial
  | [_], [_], _ => trivial
  | v :: u :: vs, s :: r :: ss, h => ⟨h.1, steps_dropLast h.2⟩
  | [], _ :: _, h => h.elim
  | _ :: _, [], h => h.elim
  | [_], _ :: _ :: _, h => h.2.elim
  | _ :: _ :: _, [_], h => h.2.elim
theorem chain_dropLast : ∀ {ss : List St} {T : List UInt8}, Chain T ss → Chain T ss.dropLast
  | [], _, _ => trivial
  | [_], _, _ => trivial
  | s :: r :: ss, _, h => ⟨h.1, h.2.1, h.2.2.1, h.2.2.2.1, chain_dropLast h.2.2.2.2⟩
theorem lens_dropLast : ∀ (ss : List St), lens ss.dropLast ≤ lens ss
  | [] => Nat.le_refl _
  | [_] => by simp [lens]
  | s :: r :: ss => by
    rw [List.dropLast_cons_cons, lens_cons, lens_cons]
    have := lens_dropLast (r :: ss)
    omega

set_option maxRecDepth 100000 in
set_option maxHeartbeats 2000000 in
theorem bap_full (N Bf : Nat) (P F : Value) (made n : Nat) (T : List UInt8) (ps fs : List St) (EA : Option Addr) (len cap : Nat) (l : List Ed) (w : World) (h : HisAt w N Bf P F made n T ps fs) (hlen : l.length = len) (hl : len ≤ cap) (hcap : cap ≤ 9223372036854775807) (hsm : len ≤ 100000) (hE : EdsAt w w.heap.size EA l) (hR : rightB 0 T.length l = true) (htot : tot l ≤ 1099511627776) (hA : (appl T 0 l).length ≤ 1048576) (hps : ps.length = 1000) (hmd : made + len ≤ 1000000000) :
    Calls Try.prog 30 #[.pointer (some ⟨Bf, 0, none⟩), .slice EA len cap] w fun e w' => e = .returned (.int .i64 0) ∧ ∃ P', HisBack N Bf P' (.slice none 0 0) (made + len) (appl T 0 l) ((turn T 0 l, T) :: ps).dropLast [] P F w w' := by
  obtain ⟨A, c, L, ht⟩ := h.tx
  obtain ⟨pA, pc, hpv⟩ := h.pv
  obtain ⟨vr, hpo, hpst⟩ := h.po
  subst hpv
  rw [hps] at h ht hpo ⊢
  obtain ⟨v0, vs, hvr⟩ : ∃ v0 vs, vr.reverse = v0 :: vs := by
    cases hv : vr.reverse with
    | nil => have := hpo.1; rw [hv] at this; simp at this
    | cons v0 vs => exact ⟨v0, vs, rfl⟩
  have HSL := Lib.hid (show ∀ v ∈ v0 :: vs, ∃ B m d, v = Value.slice B m d from fun v hv => steps_sl hpst v (by rw [← List.mem_reverse, hvr]; exact hv))
  rw [hvr] at hpo
  have HVR := Lib.hid hvr
  clear hvr
  have hT := h.tl
  have hal := appl_len T l 0 (Nat.zero_le _) hR
  have hmv : mv T.length l = ((T.length : Int), sumGr l) := by rw [mv, mv_right _ _ _ _ _ hR, Int.zero_add]
  have HV := Lib.hid (show (mv (T.length : Int) l).1 + (mv (T.length : Int) l).2 = ((appl T 0 l).length : Int) by rw [hmv]; simp at hal ⊢; omega)
  have HM := Lib.hid (right_mod hR (by omega) (by omega))
  have HR0 := Lib.hid hR
  obtain ⟨y, hy⟩ : ∃ y, y = (appl T 0 l).length := ⟨_, rfl⟩
  obtain ⟨z, hz⟩ : ∃ z, z = T.length := ⟨_, rfl⟩
  rw [← hz, ← hy] at HV
  have hbf := ht.bf
  rw [← hz] at hbf hR
  have hA' : y ≤ 1048576 := by rw [hy]; exact hA
  have c4 := hbf.c4
  have hBl := hbf.lt
  have hzT : z ≤ 1048576 := by omega
  have HR := Lib.hid hR; have HL := Lib.hid hlen; have HBF := Lib.hid hbf; have HTX := Lib.hid ht; have HH := Lib.hid h; have HPO := Lib.hid hpo; have HPS := Lib.hid hpst; have HA := Lib.hid hA
  have hN := h.sz
  clear h hlen hR hz hal hmv hy hbf ht hpo hpst hA hT
  go_enter Try.func30, Try.ntmps30
  go_wp2_with fail
  refine (right_any z EA len cap l w HL.out hl hcap hE).mono ?_
  rintro e w1 ⟨rfl, hb1⟩
  rw [HR.out]
  have d4 := (HBF.out.bl hb1).c4
  go_wp2_with fail
  refine (move_any z EA len cap l _ HL.out hl hcap (by omega) ((hE.below hb1).more hb1.size) HM.out (by omega) (by omega)).mono ?_
  rintro e w2 ⟨rfl, hb2⟩
  rw [HV.out]
  have q1 : decide ((1048576 : Int) < (y : Int)) = false := by simp; omega
  have hb2' := below_tr hb1 hb2 hb1.size
  have hkb2 : Kb (Mt Bf (.slice pA 1000 pc) F) w w2 := Kb.of_below _ hb2'
  have hh2 := HH.out.kt hkb2
  have htx2 : TxAt w2 N Bf (.slice pA 1000 pc) F made A n c L T := HTX.out.kt hh2 ((hb2'.block _ hBl).trans HTX.out.bf)
  have HT2 := Lib.hid htx2
  have HE2 := Lib.hid ((hE.below hb2').more hb2'.size)
  have HB2 := Lib.hid hb2'
  have hsz2 := hb2'.size
  clear hkb2 hh2 htx2 hb1 hb2 d4 hb2'
  have HSW := Lib.hid (swap_any N Bf (.slice pA 1000 pc) F made A n c L T EA len cap l w2.drew (HT2.out.kt (fun i cs t fz hi _ _ => hi) HT2.out.bf) (Nat.le_trans hN hsz2) HL.out hl hcap hsm (HE2.out.keep fun _ _ => rfl) HR0.out HH.out.tl HA.out)
  have HDN := Lib.hid (fun (A2 : Option Addr) (c2 : Nat) (pcv : Value) (sz : Int) (w3 : World) (hb3 : BfAt w3 Bf (.slice pA 1000 pc) F made pcv sz) (hk3 : Kb (fun i => i = Bf) w w3) => done_full Bf pA pc N v0 vs F pcv made sz A2 l.length c2 w3 hb3 (own_kb HPO.out hk3 (fun g hg he => own_ne_bf HPO.out HTX.out.bf (by decide) (by rw [hg, he]))) (Nat.le_trans hN hk3.size) HSL.out (by rw [HL.out]; omega) (by omega) (by omega))
  have HK2 := Lib.hid (show ∀ w3, Kb (fun i => i = Bf) w2.drew w3 → Kb (fun i => i = Bf) w w3 from fun w3 hk3 => (Kb.of_below _ HB2.out).trans (b := w2) ⟨hk3.os, hk3.tape, hk3.output, hk3.size, hk3.block⟩ (fun i _ h => h))
  go_wp2_with fail
  go_region_with (first | (go_at_call 57; (with_reducible refine HSW.out.mono ?_); rintro e w3 ⟨A2, c2, A', c', L', rfl, htx3, hown3, hk3⟩) | (go_at_call 56; (with_reducible refine (HDN.out A2 c2 _ _ w3 htx3.bf (HK2.out w3 hk3)).mono ?_); rintro e w4 ⟨rfl, g, c4', hb4, ho4, hk4, hg4⟩))
  have hkw3 := HK2.out w3 hk3
  have hkt3 : KT w w3 := bf_kt HTX.out.bf hkw3
  have hpo3 := own_kb HPO.out hkw3 (fun g hg he => own_ne_bf HPO.out HTX.out.bf (by decide) (by rw [hg, he]))
  have hkt4 : KT w3 w4 := row_kt htx3.bf hpo3 hk4
  have hmade : (made : Int) + (l.length : Int) = ((made + len : Nat) : Int) := by rw [HL.out]; omega
  rw [hmade] at hb4
  have htx4 : TxAt w4 N Bf (.slice (some ⟨g, 0, none⟩) 1000 c4') (.slice none 0 0) ((made + len : Nat) : Int) A' L'.length c' L' (appl T 0 l) := htx3.kt hkt4 hb4
  have hst4 : StepV w4 (.slice A2 l.length c2) (turn T 0 l) := (step_of_len hown3 (turn_len T l 0)).kt hkt4
  have HT4 := Lib.hid htx4
  have HX4 := Lib.hid (And.intro hkw3 (And.intro hkt3 (And.intro hkt4 (And.intro ho4 (And.intro hk4 (And.intro hg4 hst4))))))
  have hN4 : N ≤ w4.heap.size := Nat.le_trans (Nat.le_trans hN hkw3.size) hk4.size
  clear hkw3 hkt3 hpo3 hkt4 hmade htx4 hst4 ho4 hk4 hg4 hb4 htx3 hown3 hk3 HDN HSW HK2
  go_wp2_with fail
  refine (tidy_any N Bf L'.length c' A' (.slice (some ⟨g, 0, none⟩) 1000 c4') (.slice none 0 0) (made + len) L' (appl T 0 l) w4 HT4.out hN4 hmd HA.out).mono ?_
  rintro e w5 ⟨rfl, A5, c5, L5, htx5, hn5, hk5⟩
  have HT5 := Lib.hid htx5; have HK5 := Lib.hid hk5
  clear htx5 hk5
  go_wp2
  go_ret
  obtain ⟨hkw3, hkt3, hkt4, ho4, hk4, hg4, hst4⟩ := HX4.out
  have hkt5 := bf_kt HT4.out.bf HK5.out
  have hkt := (hkt3.trans hkt4).trans hkt5
  have hne := own_ne_bf ho4 HT4.out.bf (by decide)
  refine ⟨rfl, .slice (some ⟨g, 0, none⟩) 1000 c4', L5.length, ⟨⟨A5, c5, L5, HT5.out⟩, ⟨_, _, by rw [List.length_dropLast, List.length_cons, hps]⟩, ⟨_, _, rfl⟩, ⟨(.slice A2 l.length c2 :: vr).dropLast, ?_, steps_dropLast (vs := .slice A2 l.length c2 :: vr) (ss := (turn T 0 l, T) :: ps) ⟨hst4.kt hkt5, HPS.out.kt hkt⟩⟩, ⟨[], World.ownsRow_nil _ _ _ _, trivial⟩, fun _ _ => by simp [Value.ownBlock], chain_dropLast (turn_chain HH.out.tl (by rw [HL.out]; exact hsm) HR0.out HH.out.pch), trivial, ?_, hmd, HA.out, HH.out.lo, Nat.le_trans hN4 HK5.out.size⟩, hn5, ?_, ?_⟩
  · have hrev : ((Value.slice A2 l.length c2 :: vr).dropLast).reverse = vs ++ [.slice A2 l.length c2] := by
      have : vr = vs.reverse ++ [v0] := by have := congrArg List.reverse HVR.out; simpa using this
      rw [this, ← List.cons_append, List.dropLast_concat]; simp
    rw [hrev, List.length_dropLast, List.length_cons, hps]
    exact own_kb ho4 HK5.out (fun g hg he => hne (by rw [hg, he]))
  · have := HH.out.mkd
    refine Nat.le_trans (lens_dropLast _) ?_
    rw [lens_cons]
    simp only [turn_len, HL.out]
    omega
  · have k1 : Kb (Mt Bf (.slice pA 1000 pc) F) w w3 := hkw3.wider (fun i h => .inl h)
    have k2 := k1.trans hk4 (fun i _ h => h.elim .inl (fun h => .inr (.inl h)))
    exact k2.trans HK5.out (fun i _ h => .inl h)
  · rintro i (h | h | h)
    · exact .inl (.inl h)
    · have hi : i = g := by simpa [Value.ownBlock] using h
      rcases hg4 with h' | h'
      · exact .inl (.inr (.inl (by rw [h', hi])))
      · exact .inr (by have := hkw3.size; omega)
    · simp [Value.ownBlock] at h
end Go.Proofs.Ytpifobaejmfppaa
