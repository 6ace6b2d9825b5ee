/- What a buffer tells of itself; tidy, where nothing is to be done. -/
import Derived.Test.YtpifobaejmfppaaN10
namespace Go.Proofs.Ytpifobaejmfppaa
open Go.RowKit

theorem blen_any {Bf : Nat} {p f pc : Value} {made sz : Int} {w : World} (h : BfAt w Bf p f made pc sz) : Calls Try.prog 34 #[.pointer (some ⟨Bf, 0, none⟩)] w fun e w' => e = .returned (.int .i64 sz) ∧ w' = w := by
  have c4 := h.c4
  clear h
  go_enter Try.func34, Try.ntmps34
  go_wp2
  go_ret
  exact ⟨rfl, rfl⟩
theorem bpast_any {Bf n c : Nat} {A : Option Addr} {f pc : Value} {made sz : Int} {w : World} (h : BfAt w Bf (.slice A n c) f made pc sz) : Calls Try.prog 35 #[.pointer (some ⟨Bf, 0, none⟩)] w fun e w' => e = .returned (.int .i64 n) ∧ w' = w := by
  have c0 := h.c0
  clear h
  go_enter Try.func35, Try.ntmps35
  go_wp2_with fail
  refine (size_any Bf 0 A n c w c0).mono ?_
  rintro e w1 ⟨rfl, rfl⟩
  go_wp2
  go_ret
  exact ⟨rfl, rfl⟩
theorem bfuture_any {Bf n c : Nat} {A : Option Addr} {p pc : Value} {made sz : Int} {w : World} (h : BfAt w Bf p (.slice A n c) made pc sz) : Calls Try.prog 36 #[.pointer (some ⟨Bf, 0, none⟩)] w fun e w' => e = .returned (.int .i64 n) ∧ w' = w := by
  have c1 := h.c1
  clear h
  go_enter Try.func36, Try.ntmps36
  go_wp2_with fail
  refine (size_any Bf 1 A n c w c1).mono ?_
  rintro e w1 ⟨rfl, rfl⟩
  go_wp2
  go_ret
  exact ⟨rfl, rfl⟩
theorem bpieces_any {Bf n c : Nat} {A : Option Addr} {p f : Value} {made sz : Int} {w : World} (h : BfAt w Bf p f made (.slice A n c) sz) : Calls Try.prog 37 #[.pointer (some ⟨Bf, 0, none⟩)] w fun e w' => e = .returned (.int .i64 (max 1 n : Nat)) ∧ w' = w := by
  have c3 := h.c3
  have p1 : max (1 : Int) (n : Int) = ((max 1 n : Nat) : Int) := by omega
  clear h
  go_enter Try.func37, Try.ntmps37
  go_wp2
  go_ret
  exact ⟨rfl, rfl⟩
theorem tidy_no {Bf n c : Nat} {A : Option Addr} {p f : Value} {made sz : Int} {w : World} (h : BfAt w Bf p f made (.slice A n c) sz) (h1 : n ≤ 256) (h2 : (n : Int) ≤ 1 + 2 * made) (h3 : made ≤ 1099511627776) : Calls Try.prog 58 #[.pointer (some ⟨Bf, 0, none⟩)] w fun e w' => e = .returned (.tuple #[]) ∧ ∃ k, w' = w.drewN k := by
  have c3 := h.c3
  have c2 := h.c2
  clear h
  have v1 : IntKind.i64.wrap (2 * made) = 2 * made := IntWalk.i64_in _ (by omega)
  have v2 : IntKind.i64.wrap (1 + 2 * made) = 1 + 2 * made := IntWalk.i64_in _ (by omega)
  obtain ⟨mn, hmn⟩ : ∃ mn : Int, mn = min 256 (1 + 2 * made) := ⟨_, rfl⟩
  have hle : (n : Int) ≤ mn := by omega
  have q1 : decide (mn < (n : Int)) = false := by simp; omega
  have hmn' := hmn.symm
  clear hmn
  go_enter Try.func58, Try.ntmps58
  go_wp2_with fail
  go_quiet (fail)
  go_wp2
  go_end0
  exact ⟨rfl, _, rfl⟩
end Go.Proofs.Ytpifobaejmfppaa
