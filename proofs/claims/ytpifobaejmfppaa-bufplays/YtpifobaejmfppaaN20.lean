/- A new buffer with its steps; Splice; the document's example. -/
import Derived.Test.YtpifobaejmfppaaN19
namespace Go.Proofs.Ytpifobaejmfppaa
open Go.RowKit

theorem new_his {w w' : World} {Bf c : Nat} {A : Option Addr} {L : List Pc} {T : List UInt8} (h : TxAt w' w.heap.size Bf (.slice none 0 0) (.slice none 0 0) 0 A L.length c L T) (hb : Below w.heap.size w w') (hB : w.heap.size ≤ Bf) (hT : T.length ≤ 1048576) : HisAt w' w.heap.size Bf (.slice none 0 0) (.slice none 0 0) 0 L.length T [] [] :=
  ⟨⟨A, c, L, h⟩, ⟨_, _, rfl⟩, ⟨_, _, rfl⟩, ⟨[], World.ownsRow_nil _ _ _ _, trivial⟩, ⟨[], World.ownsRow_nil _ _ _ _, trivial⟩, fun _ _ => by simp [Value.ownBlock], trivial, trivial, Nat.le_refl _, by omega, hT, hB, hb.size⟩

theorem HisAt.below {w w' : World} {N Bf made n : Nat} {P F : Value} {T : List UInt8} {ps fs : List St} (h : HisAt w N Bf P F made n T ps fs) (hb : Below w.heap.size w w') : HisAt w' N Bf P F made n T ps fs :=
  h.keep (Kb.of_below (fun _ => False) hb) (fun _ _ h => h) (fun i cs t fz hi _ _ => (hb.block i (lt_of_heap hi)).trans hi)

theorem HisBack.from {w w1 w' : World} {N Bf made : Nat} {P F P0 F0 : Value} {T : List UInt8} {ps fs : List St} (h : HisBack N Bf P F made T ps fs P0 F0 w1 w') (hb : Below w.heap.size w w1) : HisBack N Bf P F made T ps fs P0 F0 w w' := by
  obtain ⟨n, h1, h2, h3, h4⟩ := h
  exact ⟨n, h1, h2, (Kb.of_below _ hb).trans h3 (fun _ _ h => h), fun i hi => (h4 i hi).imp id (fun h => Nat.le_trans hb.size h)⟩

theorem his_text (N Bf : Nat) (P F : Value) (made n : Nat) (T : List UInt8) (ps fs : List St) (w : World) (h : HisAt w N Bf P F made n T ps fs) :
    Calls Try.prog 33 #[.pointer (some ⟨Bf, 0, none⟩)] w fun e w' => e = .returned (.string ⟨T.toArray⟩) ∧ Below w.heap.size w w' := by
  obtain ⟨A, c, L, ht⟩ := h.tx
  exact text_any N Bf P F made A n c L T w ht

theorem HisBack.below {w w' : World} {N Bf made : Nat} {P F P0 F0 : Value} {T : List UInt8} {ps fs : List St} (h : HisBack N Bf P F made T ps fs P0 F0 w w') {n0 made0 : Nat} {T0 : List UInt8} {ps0 fs0 : List St} (h0 : HisAt w N Bf P0 F0 made0 n0 T0 ps0 fs0) : Below N w w' := by
  obtain ⟨n, h1, h2, h3, h4⟩ := h
  exact h3.below h0.sz (fun i hi => (h0.mt hi).1)

theorem eds_one' (w : World) (f t : Int) (s : ByteArray) : EdsAt (w.alloc (.cells #[.int .i64 f, .int .i64 t, .string s] 35)) (w.heap.size + 1) (some ⟨w.heap.size, 0, none⟩) [⟨f, t, s⟩] := by
  intro i e he
  have hb := heap_alloc_new w (.cells #[.int .i64 f, .int .i64 t, .string s] 35)
  cases i with
  | zero =>
    have : e = ⟨f, t, s⟩ := by simpa using he.symm
    subst this
    refine ⟨⟨w.heap.size, 0, none⟩, rfl, by simp, ?_, ?_, ?_⟩
    · rw [add_none, Lib.cell_of_heap hb]; rfl
    · rw [add_none, Lib.cell_of_heap hb]; rfl
    · rw [add_none, Lib.cell_of_heap hb]; rfl
  | succ i => simp at he

set_option maxHeartbeats 1000000 in
theorem splice_of (Bf : Nat) (f t : Int) (s : ByteArray) (w : World) (er : Int) (R : World → Prop) (h : ∀ w1, Below w.heap.size w w1 → EdsAt w1 w1.heap.size (some ⟨w.heap.size, 0, none⟩) [⟨f, t, s⟩] → Calls Try.prog 30 #[.pointer (some ⟨Bf, 0, none⟩), .slice (some ⟨w.heap.size, 0, none⟩) 1 1] w1 fun e w' => e = .returned (.int .i64 er) ∧ R w') :
    Calls Try.prog 29 #[.pointer (some ⟨Bf, 0, none⟩), .int .i64 f, .int .i64 t, .string s] w fun e w' => e = .returned (.int .i64 er) ∧ R w' := by
  have HC := Lib.hid (h _ ((Below.refl w.heap.size w).alloc (Nat.le_refl _) (.cells #[.int .i64 f, .int .i64 t, .string s] 35)) (by rw [World.size_alloc]; exact eds_one' w f t s))
  clear h
  go_enter Try.func29, Try.ntmps29
  go_wp2_with fail
  refine HC.out.mono ?_
  rintro e w1 ⟨rfl, hr⟩
  go_wp2
  go_ret
  exact ⟨rfl, hr⟩

theorem splice_ok (N Bf : Nat) (P F : Value) (made n : Nat) (T : List UInt8) (ps fs : List St) (f t : Int) (s : ByteArray) (w : World) (h : HisAt w N Bf P F made n T ps fs) (hR : rightB 0 T.length [⟨f, t, s⟩] = true) (htot : s.size ≤ 1099511627776) (hA : (appl T 0 [⟨f, t, s⟩]).length ≤ 1048576) (hps : ps.length < 1000) (hmd : made + 1 ≤ 1000000000) :
    Calls Try.prog 29 #[.pointer (some ⟨Bf, 0, none⟩), .int .i64 f, .int .i64 t, .string s] w fun e w' => e = .returned (.int .i64 0) ∧ ∃ P', HisBack N Bf P' (.slice none 0 0) (made + 1) (appl T 0 [⟨f, t, s⟩]) ((turn T 0 [⟨f, t, s⟩], T) :: ps) [] P F w w' := by
  refine splice_of Bf f t s w 0 _ fun w1 hb hE => ?_
  refine (bap_ok N Bf P F made n T ps fs _ 1 1 [⟨f, t, s⟩] w1 (h.below hb) rfl (Nat.le_refl _) (by omega) (by omega) hE hR (by simp [tot]; exact htot) hA hps hmd).mono ?_
  rintro e w' ⟨rfl, P', hbk⟩
  exact ⟨rfl, P', hbk.from hb⟩

theorem splice_no (N Bf : Nat) (P F : Value) (made n : Nat) (T : List UInt8) (ps fs : List St) (f t : Int) (s : ByteArray) (w : World) (h : HisAt w N Bf P F made n T ps fs) (hR : rightB 0 T.length [⟨f, t, s⟩] = false) :
    Calls Try.prog 29 #[.pointer (some ⟨Bf, 0, none⟩), .int .i64 f, .int .i64 t, .string s] w fun e w' => e = .returned (.int .i64 2) ∧ Below w.heap.size w w' := by
  refine splice_of Bf f t s w 2 _ fun w1 hb hE => ?_
  obtain ⟨A, c, L, ht⟩ := (h.below hb).tx
  refine (bap_no Bf P F made A n c L T N _ 1 1 [⟨f, t, s⟩] w1 ht rfl (Nat.le_refl _) (by omega) hE hR).mono ?_
  rintro e w' ⟨rfl, hb2⟩
  exact ⟨rfl, below_tr hb hb2 hb.size⟩

set_option maxRecDepth 100000 in
set_option maxHeartbeats 2000000 in
theorem awake2 (w : World) : Calls Try.prog 27 #[] w fun e w' => e = .returned (.bool true) ∧ Below w.heap.size w w' := by
  have HS := Lib.hid (new_any ⟨#[97, 98, 99]⟩ w (by decide))
  go_enter Try.func27, Try.ntmps27
  go_wp2_with fail
  refine HS.out.mono ?_
  rintro e w1 ⟨Bf, A, c, L, rfl, ht, hb1, _, hB⟩
  have HH1 := Lib.hid (new_his ht hb1 hB (by decide))
  have HB1 := Lib.hid hb1
  clear ht hb1 HS
  go_wp2_with fail
  refine (splice_ok _ Bf _ _ 0 _ _ [] [] 1 2 ⟨#[120, 121]⟩ _ HH1.out (by decide) (by decide) (by decide) (by decide) (by decide)).mono ?_
  rintro e w2 ⟨rfl, P', hbk⟩
  have HB2 := Lib.hid (HB1.out.trans (hbk.below HH1.out))
  obtain ⟨l1, hl1⟩ : ∃ l1, l1 = turn [97, 98, 99] 0 [(⟨1, 2, ⟨#[120, 121]⟩⟩ : Ed)] := ⟨_, rfl⟩
  rw [show appl [97, 98, 99] 0 [(⟨1, 2, ⟨#[120, 121]⟩⟩ : Ed)] = [97, 120, 121, 99] from rfl, ← hl1] at hbk
  have hll : l1.length = 1 := by rw [hl1, turn_len]; rfl
  clear hl1
  obtain ⟨n2, hh2, _, _, _⟩ := hbk
  have HH2 := Lib.hid hh2
  clear hh2
  go_wp2_with fail
  refine (his_text _ _ _ _ _ _ _ _ _ _ HH2.out).mono ?_
  rintro e w3 ⟨rfl, hb3⟩
  have HH3 := Lib.hid (HH2.out.below hb3)
  have HB3 := Lib.hid (below_tr HB2.out hb3 HB2.out.size)
  clear hb3
  go_wp2_with fail
  refine (undo_ok _ _ _ _ _ _ _ _ _ _ _ _ HH3.out (by decide)).mono ?_
  rintro e w4 ⟨B, d, rfl, _, P4, F4, hbk⟩
  have HB4 := Lib.hid (HB3.out.trans (hbk.below HH3.out))
  obtain ⟨n4, hh4, _, _, _⟩ := hbk
  have HH4 := Lib.hid hh4
  clear hh4
  rw [hll]
  clear hll
  go_wp2_with fail
  refine (his_text _ _ _ _ _ _ _ _ _ _ HH4.out).mono ?_
  rintro e w5 ⟨rfl, hb5⟩
  have HB5 := Lib.hid (below_tr HB4.out hb5 HB4.out.size)
  clear hb5
  go_wp2
  go_ret
  exact ⟨rfl, HB5.out⟩
end Go.Proofs.Ytpifobaejmfppaa
