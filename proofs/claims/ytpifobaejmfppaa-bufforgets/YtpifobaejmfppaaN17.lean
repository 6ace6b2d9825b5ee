/- What Apply does to a buffer. -/
import Derived.Test.YtpifobaejmfppaaN16
namespace Go.Proofs.Ytpifobaejmfppaa
open Go.RowKit

theorem BfAt.bl {w w' : World} {Bf : Nat} {p f pc : Value} {made sz : Int} (h : BfAt w Bf p f made pc sz) (hb : Below w.heap.size w w') : BfAt w' Bf p f made pc sz := (hb.block _ h.lt).trans h

theorem row_kt {w w' : World} {Bf N n : Nat} {p f pc P : Value} {made sz : Int} {vs : List Value} (h : BfAt w Bf p f made pc sz) (ho : w.ownsRow N 22 1 P n vs) (hk : Kb (fun i => i = Bf ∨ some i = P.ownBlock) w w') : KT w w' := hk.kt (fun i hi cs t fz hh => by
  rcases hi with rfl | hi
  · unfold BfAt at h
    rw [h] at hh
    injection hh with hh
    injection hh with _ h2
    exact .inl h2.symm
  · obtain ⟨_, cs', hc⟩ := row_ty ho hi
    rw [hc] at hh
    injection hh with hh
    injection hh with _ h2
    exact .inr h2.symm)

theorem step_of_len {w : World} {B : Nat} {A : Option Addr} {c k : Nat} {l : List Ed} (h : w.ownsRow B 35 3 (.slice A k c) k (edCells l)) (hl : l.length = k) : StepV w (.slice A k c) l := by
  subst hl; exact step_of_own h

set_option maxHeartbeats 1000000 in
theorem bap_no (Bf : Nat) (p f : Value) (made : Int) (A : Option Addr) (n c : Nat) (L : List Pc) (T : List UInt8) (N : Nat) (EA : Option Addr) (len cap : Nat) (l : List Ed) (w : World) (h : TxAt w N Bf p f made A n c L T) (hlen : l.length = len) (hl : len ≤ cap) (hcap : cap ≤ 9223372036854775807) (hE : EdsAt w w.heap.size EA l) (hR : rightB 0 T.length l = false) :
    Calls Try.prog 30 #[.pointer (some ⟨Bf, 0, none⟩), .slice EA len cap] w fun e w' => e = .returned (.int .i64 2) ∧ Below w.heap.size w w' := by
  have c4 := h.bf.c4
  obtain ⟨z, hz⟩ : ∃ z, z = T.length := ⟨_, rfl⟩
  rw [← hz] at c4 hR
  have HR := Lib.hid hR
  have H1 := Lib.hid (right_any z EA len cap l w hlen hl hcap hE)
  clear h hlen hR hz hE
  go_enter Try.func30, Try.ntmps30
  go_wp2_with fail
  refine H1.out.mono ?_
  rintro e w1 ⟨rfl, hb1⟩
  rw [HR.out]
  go_wp2
  go_ret
  exact ⟨rfl, hb1⟩

set_option maxHeartbeats 1000000 in
theorem bap_long (Bf : Nat) (p f : Value) (made : Int) (A : Option Addr) (n c : Nat) (L : List Pc) (T : List UInt8) (N : Nat) (EA : Option Addr) (len cap : Nat) (l : List Ed) (w : World) (h : TxAt w N Bf p f made A n c L T) (hlen : l.length = len) (hl : len ≤ cap) (hcap : cap ≤ 9223372036854775807) (hsm : len ≤ 100000) (hE : EdsAt w w.heap.size EA l) (hR : rightB 0 T.length l = true) (hT : T.length ≤ 1048576) (htot : tot l ≤ 1099511627776) (hA : 1048576 < (appl T 0 l).length) :
    Calls Try.prog 30 #[.pointer (some ⟨Bf, 0, none⟩), .slice EA len cap] w fun e w' => e = .returned (.int .i64 3) ∧ Below w.heap.size w w' := by
  have hbf := h.bf
  have hal := appl_len T l 0 (Nat.zero_le _) hR
  have hmv : mv T.length l = ((T.length : Int), sumGr l) := by rw [mv, mv_right _ _ _ _ _ hR, Int.zero_add]
  have HV := Lib.hid (show (mv (T.length : Int) l).1 + (mv (T.length : Int) l).2 = ((appl T 0 l).length : Int) by rw [hmv]; simp at hal ⊢; omega)
  have HM := Lib.hid (right_mod hR (by omega) (by omega))
  obtain ⟨y, hy⟩ : ∃ y, y = (appl T 0 l).length := ⟨_, rfl⟩
  obtain ⟨z, hz⟩ : ∃ z, z = T.length := ⟨_, rfl⟩
  rw [← hz, ← hy] at HV
  rw [← hz] at hbf hR hT
  rw [← hy] at hA
  have c4 := hbf.c4
  have hBl := hbf.lt
  have HR := Lib.hid hR; have HL := Lib.hid hlen; have HBF := Lib.hid hbf
  clear h hlen hR hz hal hmv hy hbf
  go_enter Try.func30, Try.ntmps30
  go_wp2_with fail
  refine (right_any z EA len cap l w HL.out hl hcap hE).mono ?_
  rintro e w1 ⟨rfl, hb1⟩
  rw [HR.out]
  have d4 := (HBF.out.bl hb1).c4
  go_wp2_with fail
  refine (move_any z EA len cap l _ HL.out hl hcap (by omega) ((hE.below hb1).more hb1.size) HM.out (by omega) (by omega)).mono ?_
  rintro e w2 ⟨rfl, hb2⟩
  rw [HV.out]
  have q1 : decide ((1048576 : Int) < (y : Int)) = true := by simp; omega
  go_wp2
  go_ret
  exact ⟨rfl, below_tr hb1 hb2 hb1.size⟩

set_option maxRecDepth 100000 in
set_option maxHeartbeats 2000000 in
theorem bap_ok (N Bf : Nat) (P F : Value) (made n : Nat) (T : List UInt8) (ps fs : List St) (EA : Option Addr) (len cap : Nat) (l : List Ed) (w : World) (h : HisAt w N Bf P F made n T ps fs) (hlen : l.length = len) (hl : len ≤ cap) (hcap : cap ≤ 9223372036854775807) (hsm : len ≤ 100000) (hE : EdsAt w w.heap.size EA l) (hR : rightB 0 T.length l = true) (htot : tot l ≤ 1099511627776) (hA : (appl T 0 l).length ≤ 1048576) (hps : ps.length < 1000) (hmd : made + len ≤ 1000000000) :
    Calls Try.prog 30 #[.pointer (some ⟨Bf, 0, none⟩), .slice EA len cap] w fun e w' => e = .returned (.int .i64 0) ∧ ∃ P', HisBack N Bf P' (.slice none 0 0) (made + len) (appl T 0 l) ((turn T 0 l, T) :: ps) [] P F w w' := by
  obtain ⟨A, c, L, ht⟩ := h.tx
  obtain ⟨pA, pc, hpv⟩ := h.pv
  obtain ⟨vr, hpo, hpst⟩ := h.po
  subst hpv
  have hT := h.tl
  have hal := appl_len T l 0 (Nat.zero_le _) hR
  have hmv : mv T.length l = ((T.length : Int), sumGr l) := by rw [mv, mv_right _ _ _ _ _ hR, Int.zero_add]
  have HV := Lib.hid (show (mv (T.length : Int) l).1 + (mv (T.length : Int) l).2 = ((appl T 0 l).length : Int) by rw [hmv]; simp at hal ⊢; omega)
  have HM := Lib.hid (right_mod hR (by omega) (by omega))
  have HR0 := Lib.hid hR
  obtain ⟨y, hy⟩ : ∃ y, y = (appl T 0 l).length := ⟨_, rfl⟩
  obtain ⟨z, hz⟩ : ∃ z, z = T.length := ⟨_, rfl⟩
  rw [← hz, ← hy] at HV
  have hbf := ht.bf
  rw [← hz] at hbf hR
  have hA' : y ≤ 1048576 := by rw [hy]; exact hA
  have c4 := hbf.c4
  have hBl := hbf.lt
  have hzT : z ≤ 1048576 := by omega
  have HR := Lib.hid hR; have HL := Lib.hid hlen; have HBF := Lib.hid hbf; have HTX := Lib.hid ht; have HH := Lib.hid h; have HPO := Lib.hid hpo; have HPS := Lib.hid hpst; have HA := Lib.hid hA
  have hN := h.sz
  clear h hlen hR hz hal hmv hy hbf ht hpo hpst hA hT
  go_enter Try.func30, Try.ntmps30
  go_wp2_with fail
  refine (right_any z EA len cap l w HL.out hl hcap hE).mono ?_
  rintro e w1 ⟨rfl, hb1⟩
  rw [HR.out]
  have d4 := (HBF.out.bl hb1).c4
  go_wp2_with fail
  refine (move_any z EA len cap l _ HL.out hl hcap (by omega) ((hE.below hb1).more hb1.size) HM.out (by omega) (by omega)).mono ?_
  rintro e w2 ⟨rfl, hb2⟩
  rw [HV.out]
  have q1 : decide ((1048576 : Int) < (y : Int)) = false := by simp; omega
  have hb2' := below_tr hb1 hb2 hb1.size
  have hkb2 : Kb (Mt Bf (.slice pA ps.length pc) F) w w2 := Kb.of_below _ hb2'
  have hh2 := HH.out.kt hkb2
  have htx2 : TxAt w2 N Bf (.slice pA ps.length pc) F made A n c L T := HTX.out.kt hh2 ((hb2'.block _ hBl).trans HTX.out.bf)
  have HT2 := Lib.hid htx2
  have HE2 := Lib.hid ((hE.below hb2').more hb2'.size)
  have HB2 := Lib.hid hb2'
  have hsz2 := hb2'.size
  clear hkb2 hh2 htx2 hb1 hb2 d4 hb2'
  have HSW := Lib.hid (swap_any N Bf (.slice pA ps.length pc) F made A n c L T EA len cap l w2.drew (HT2.out.kt (fun i cs t fz hi _ _ => hi) HT2.out.bf) (Nat.le_trans hN hsz2) HL.out hl hcap hsm (HE2.out.keep fun _ _ => rfl) HR0.out HH.out.tl HA.out)
  have HDN := Lib.hid (fun (A2 : Option Addr) (c2 : Nat) (pcv : Value) (sz : Int) (w3 : World) (hb3 : BfAt w3 Bf (.slice pA ps.length pc) F made pcv sz) (hk3 : Kb (fun i => i = Bf) w w3) => done_few Bf pA ps.length pc N vr.reverse F pcv made sz A2 l.length c2 w3 hb3 (own_kb HPO.out hk3 (fun g hg he => own_ne_bf HPO.out HTX.out.bf (by decide) (by rw [hg, he]))) (Nat.le_trans hN hk3.size) hps (by rw [HL.out]; omega) (by omega) (by omega))
  have HK2 := Lib.hid (show ∀ w3, Kb (fun i => i = Bf) w2.drew w3 → Kb (fun i => i = Bf) w w3 from fun w3 hk3 => (Kb.of_below _ HB2.out).trans (b := w2) ⟨hk3.os, hk3.tape, hk3.output, hk3.size, hk3.block⟩ (fun i _ h => h))
  go_wp2_with fail
  go_region_with (first | (go_at_call 57; (with_reducible refine HSW.out.mono ?_); rintro e w3 ⟨A2, c2, A', c', L', rfl, htx3, hown3, hk3⟩) | (go_at_call 56; (with_reducible refine (HDN.out A2 c2 _ _ w3 htx3.bf (HK2.out w3 hk3)).mono ?_); rintro e w4 ⟨rfl, g, c4', hb4, ho4, hk4, hg4⟩))
  have hkw3 := HK2.out w3 hk3
  have hkt3 : KT w w3 := bf_kt HTX.out.bf hkw3
  have hpo3 := own_kb HPO.out hkw3 (fun g hg he => own_ne_bf HPO.out HTX.out.bf (by decide) (by rw [hg, he]))
  have hkt4 : KT w3 w4 := row_kt htx3.bf hpo3 hk4
  have hmade : (made : Int) + (l.length : Int) = ((made + len : Nat) : Int) := by rw [HL.out]; omega
  rw [hmade] at hb4
  have htx4 : TxAt w4 N Bf (.slice (some ⟨g, 0, none⟩) (ps.length + 1) c4') (.slice none 0 0) ((made + len : Nat) : Int) A' L'.length c' L' (appl T 0 l) := htx3.kt hkt4 hb4
  have hst4 : StepV w4 (.slice A2 l.length c2) (turn T 0 l) := (step_of_len hown3 (turn_len T l 0)).kt hkt4
  have HT4 := Lib.hid htx4
  have HX4 := Lib.hid (And.intro hkw3 (And.intro hkt3 (And.intro hkt4 (And.intro ho4 (And.intro hk4 (And.intro hg4 hst4))))))
  have hN4 : N ≤ w4.heap.size := Nat.le_trans (Nat.le_trans hN hkw3.size) hk4.size
  clear hkw3 hkt3 hpo3 hkt4 hmade htx4 hst4 ho4 hk4 hg4 hb4 htx3 hown3 hk3 HDN HSW HK2
  go_wp2_with fail
  refine (tidy_any N Bf L'.length c' A' (.slice (some ⟨g, 0, none⟩) (ps.length + 1) c4') (.slice none 0 0) (made + len) L' (appl T 0 l) w4 HT4.out hN4 hmd HA.out).mono ?_
  rintro e w5 ⟨rfl, A5, c5, L5, htx5, hn5, hk5⟩
  have HT5 := Lib.hid htx5; have HK5 := Lib.hid hk5
  clear htx5 hk5
  go_wp2
  go_ret
  obtain ⟨hkw3, hkt3, hkt4, ho4, hk4, hg4, hst4⟩ := HX4.out
  have hkt5 := bf_kt HT4.out.bf HK5.out
  have hkt := (hkt3.trans hkt4).trans hkt5
  have hne := own_ne_bf ho4 HT4.out.bf (by decide)
  refine ⟨rfl, .slice (some ⟨g, 0, none⟩) (ps.length + 1) c4', L5.length, ⟨⟨A5, c5, L5, HT5.out⟩, ⟨_, _, rfl⟩, ⟨_, _, rfl⟩, ⟨.slice A2 l.length c2 :: vr, ?_, hst4.kt hkt5, HPS.out.kt hkt⟩, ⟨[], World.ownsRow_nil _ _ _ _, trivial⟩, fun _ _ => by simp [Value.ownBlock], turn_chain HH.out.tl (by rw [HL.out]; exact hsm) HR0.out HH.out.pch, trivial, ?_, hmd, HA.out, HH.out.lo, Nat.le_trans hN4 HK5.out.size⟩, hn5, ?_, ?_⟩
  · rw [List.reverse_cons]
    exact own_kb ho4 HK5.out (fun g hg he => hne (by rw [hg, he]))
  · have := HH.out.mkd
    unfold lens at this ⊢
    simp only [List.map_cons, List.sum_cons, turn_len, HL.out]
    omega
  · have k1 : Kb (Mt Bf (.slice pA ps.length pc) F) w w3 := hkw3.wider (fun i h => .inl h)
    have k2 := k1.trans hk4 (fun i _ h => h.elim .inl (fun h => .inr (.inl h)))
    exact k2.trans HK5.out (fun i _ h => .inl h)
  · rintro i (h | h | h)
    · exact .inl (.inl h)
    · have hi : i = g := by simpa [Value.ownBlock] using h
      rcases hg4 with h' | h'
      · exact .inl (.inr (.inl (by rw [h', hi])))
      · exact .inr (by have := hkw3.size; omega)
    · simp [Value.ownBlock] at h
end Go.Proofs.Ytpifobaejmfppaa
