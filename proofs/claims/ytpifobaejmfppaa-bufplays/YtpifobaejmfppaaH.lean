/- The document's Same at equal lists, and the document's example (awake). -/
import Derived.Test.YtpifobaejmfppaaG
namespace Go.Proofs.Ytpifobaejmfppaa
open Go.RowKit

set_option maxHeartbeats 1000000 in
theorem same_yes (A A' : Option Addr) (len cap cap' : Nat) (l : List Ed) (w : World) (hlen : l.length = len) (hl : len ≤ cap) (_hl' : len ≤ cap') (hcap : cap ≤ 9223372036854775807) (_hcap' : cap' ≤ 9223372036854775807) (hE : EdsAt w w.heap.size A l) (hE' : EdsAt w w.heap.size A' l) :
    Calls Try.prog 40 #[.slice A len cap, .slice A' len cap'] w fun e w' => e = .returned (.bool true) ∧ Below w.heap.size w w' := by
  have HL := Lib.hid hlen; clear hlen
  go_enter Try.func40, Try.ntmps40
  go_wp2_with fail
  go_loopw [5] (fun i wr => ∃ (k : Nat), k ≤ len ∧ i = .int .i64 k ∧ Below w.heap.size w wr) (fun i _ => len - (intOf i).toNat)
  case atStart => exact ⟨0, Nat.zero_le _, rfl, Below.refl _ _⟩
  case round =>
    obtain ⟨k, hk, rfl, hb⟩ := hrel
    by_cases hlt : k < len
    · obtain ⟨e, he⟩ := get_some l k (by rw [HL.out]; exact hlt)
      obtain ⟨ad, rfl, hab, c0, c1, c2⟩ := (hE.below hb) k e he
      obtain ⟨ad', rfl, hab', b0, b1, b2⟩ := (hE'.below hb) k e he
      clear he
      have hz := hb.size
      have hki : (k : Int) < len := by omega
      have hk0 : (0 : Int) ≤ k := by omega
      go_wp2_with fail
      go_quiet (fail)
      go_wp2
      go_roundw
      case rel => exact ⟨k + 1, by omega, by go_num, below_drewN hb _⟩
      case measure => simp [intOf]; omega
    · go_wp2
      go_ret
      exact ⟨rfl, hb⟩

theorem eds_one (w : World) (e : Ed) : EdsAt (w.alloc (.cells #[.int .i64 e.f, .int .i64 e.t, .string e.s] 35)) (w.heap.size + 1) (some ⟨w.heap.size, 0, none⟩) [e] := by
  intro i x hx
  cases i with
  | succ i => simp at hx
  | zero =>
    simp at hx; subst hx
    have hb := heap_alloc_new w (.cells #[.int .i64 e.f, .int .i64 e.t, .string e.s] 35)
    refine ⟨_, rfl, by simp, ?_⟩
    rw [add_none]
    exact ⟨by rw [Lib.cell_of_heap hb]; rfl, by rw [Lib.cell_of_heap hb]; rfl, by rw [Lib.cell_of_heap hb]; rfl⟩

set_option maxHeartbeats 1000000 in
theorem awake_any (w : World) : Calls Try.prog 14 #[] w fun e w' => e = .returned (.bool true) ∧ Below w.heap.size w w' := by
  have r1 := Lib.hid (show rightB 0 ((⟨#[97, 98, 99]⟩ : ByteArray).size : Int) [⟨1, 2, ⟨#[120, 121]⟩⟩] = true by decide)
  have a1 := Lib.hid (show appl (⟨#[97, 98, 99]⟩ : ByteArray).data.toList 0 [⟨1, 2, ⟨#[120, 121]⟩⟩] = [97, 120, 121, 99] by decide)
  have t1 := Lib.hid (show turn (⟨#[97, 98, 99]⟩ : ByteArray).data.toList 0 [⟨1, 2, ⟨#[120, 121]⟩⟩] = [⟨1, 3, ⟨#[98]⟩⟩] by rfl)
  have s1 := Lib.hid (show (⟨#[97, 98, 99]⟩ : ByteArray).size + tot [⟨1, 2, ⟨#[120, 121]⟩⟩] ≤ 1099511627776 by decide)
  go_enter Try.func14, Try.ntmps14
  go_wp2_with fail
  have hE := eds_one w ⟨1, 2, ⟨#[120, 121]⟩⟩
  refine (apply_yes _ _ 1 1 [⟨1, 2, ⟨#[120, 121]⟩⟩] _ rfl (by omega) (by omega) (by omega) (by simpa using hE) r1.out s1.out).mono ?_
  rintro e w1 ⟨rfl, hb1⟩
  rw [a1.out]
  have hb1' : Below w.heap.size w w1 := below_tr ((Below.refl _ _).alloc (Nat.le_refl _) _) hb1 (by simp)
  clear hE hb1
  go_wp2_with fail
  have hE := eds_one w1 ⟨1, 2, ⟨#[120, 121]⟩⟩
  refine (turn_yes _ _ 1 1 [⟨1, 2, ⟨#[120, 121]⟩⟩] _ rfl (by omega) (by omega) (by omega) (by simpa using hE) r1.out s1.out).mono ?_
  rw [t1.out]
  rintro e w2 ⟨A, c, rfl, h1, h2, ho, hb2⟩
  have hb2' : Below w.heap.size w w2 := below_tr (hb1'.alloc hb1'.size _) hb2 (by have := hb1'.size; simp; omega)
  clear hE hb2
  go_wp2_with fail
  have hE := eds_one w2 ⟨1, 3, ⟨#[98]⟩⟩
  have hE' : EdsAt (w2.alloc (.cells #[.int .i64 1, .int .i64 3, .string ⟨#[98]⟩] 35)) (w2.heap.size + 1) A [⟨1, 3, ⟨#[98]⟩⟩] := ((eds_of_own ho).below ((Below.refl _ _).alloc (Nat.le_refl _) _)).more (by omega)
  refine (same_yes A _ 1 c 1 [⟨1, 3, ⟨#[98]⟩⟩] _ rfl h1 (by omega) h2 (by omega) (by simpa using hE') (by simpa using hE)).mono ?_
  rintro e w3 ⟨rfl, hb3⟩
  have hb3' : Below w.heap.size w w3 := below_tr (hb2'.alloc hb2'.size _) hb3 (by have := hb2'.size; simp; omega)
  clear hE hE' ho hb3
  go_wp2
  go_ret
  exact ⟨rfl, hb3'⟩
end Go.Proofs.Ytpifobaejmfppaa
