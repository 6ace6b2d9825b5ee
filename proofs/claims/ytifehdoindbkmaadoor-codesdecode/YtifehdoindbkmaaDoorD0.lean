/- The package-level array, out of the row's condition; the witness's world. -/
import Derived.Test.YtifehdoindbkmaaDoorRows
import Derived.Test.YtifehdoindbkmaaDoorA2
import Derived.ProofKit
import Derived.LaidMore
import Derived.OpenShut
import Derived.Stop.Joined
import Derived.SevenTiedAt
import Derived.Deep.Strs
namespace Go.Proofs.YtifehdoindbkmaaDoor
open Go.ChangeShapes Go.WideShapes Go.ChangeAt Go.WideMaps Go.WideElems Go.RowKit Go.Deep

theorem Tryd.own : ownKnob Tryd.prog.godebug = none := by kernel_rfl
theorem Tryd.laidOut : laidOutB Tryd.prog = true := by kernel_rfl
theorem gLen : Tryd.prog.globalNamed "frisket/codes.lengths" = some 0 := by kernel_rfl
theorem tLen : (Tryd.prog.globals[0]?).map (·.type) = some 77 := by kernel_rfl
theorem Tryd.cells3 : Tryd.prog.cellsOf 3 = 1 := by kernel_rfl
theorem Tryd.cells76 : Tryd.prog.cellsOf 76 = 3 := by kernel_rfl
theorem Tryd.cells77 : Tryd.prog.cellsOf 77 = 12 := by kernel_rfl

abbrev laidL : List (String × DataW Unit) := [("frisket/codes.lengths", Rows.laid_frisket_codes_lengths)]

theorem door_met (os : Os) (args : Array Value) : laidMetH Tryd.prog laidL ((World.doorLaid Tryd.prog 400 os).forCall (fun _ _ => 0) ⟨#[], args, []⟩).memory :=
  laidMetH_of_parts3 (fuel := 8) (laidMet_of_run' 8 (by kernel_rfl) (by kernel_rfl)) (by kernel_rfl) (by kernel_rfl)

theorem three_of {α : Type} {l : List α} (h : l.length = 3) : ∃ a b c, l = [a, b, c] := by
  match l, h with
  | [a, b, c], _ => exact ⟨a, b, c, rfl⟩

theorem bounds_of {H : Type} {enc : TypeId × Value → H} {W : World} {base m : Nat} {sp : Nat → Bool} {held : Bool} {cs : List Value} {x : DataW H × List MemPlace} {a b c : Int}
    (h : DataW.trod enc Tryd.prog W base sp held m 76 cs = some x) (hx : x.1 = .agg [.lit (.int .i64 a), .lit (.int .i64 b), .lit (.int .i64 c)]) : cs = [.int .i64 a, .int .i64 b, .int .i64 c] := by
  obtain ⟨y0, y1, y2, n, rfl, hlen, h0, h1, h2⟩ := trod_struct3 Tryd.underlying76 h
  obtain ⟨c0, c1, c2, rfl⟩ := three_of (hlen.trans Tryd.cells76)
  simp only [Tryd.cells3, List.drop_zero, List.drop_succ_cons, List.take_succ_cons, List.take_zero] at h0 h1 h2
  obtain ⟨f, e0, rfl, _⟩ := DataW.trod_int Tryd.underlying3 h0
  obtain ⟨t, e1, rfl, _⟩ := DataW.trod_int Tryd.underlying3 h1
  obtain ⟨s, e2, rfl, _⟩ := DataW.trod_int Tryd.underlying3 h2
  simp only [List.cons.injEq, and_true] at e0 e1 e2
  subst e0 e1 e2
  simp only [DataW.agg.injEq, List.cons.injEq, DataW.lit.injEq, Lit.int.injEq, true_and, and_true] at hx
  obtain ⟨rfl, rfl, rfl⟩ := hx
  rfl

theorem dd3 {α : Type} (l : List α) (k : Nat) : l.drop k = (l.drop k).take 3 ++ l.drop (k + 3) := by
  have := (List.take_append_drop 3 (l.drop k)).symm
  rwa [List.drop_drop] at this

theorem lenT_of_laid {W : World} (h : laidMetH Tryd.prog laidL W) : LenT W := by
  rw [MakeChecks.laidMetH_plain _ _ _ (by kernel_rfl)] at h
  obtain ⟨ps, ⟨g0, t0, cs0, f0, p0, q0, hg0, ht0, hv0, hd0, _, _⟩, _, _⟩ := h
  obtain rfl := Option.some.inj (gLen.symm.trans hg0)
  obtain rfl := Option.some.inj (tLen.symm.trans ht0)
  obtain ⟨xs, m, rfl, hx, hlen, hn, hel⟩ := DataW.trod_array Tryd.underlying77 hd0
  rw [Tryd.cells77] at hlen
  simp only [Tryd.cells76] at hel
  simp only [Prod.mk.injEq, Rows.laid_frisket_codes_lengths, DataW.agg.injEq] at hx
  match xs, hn, hx, hel with
  | [x0, x1, x2, x3], _, hx, hel =>
    simp only [List.map_cons, List.map_nil, List.cons.injEq, and_true] at hx
    obtain ⟨⟨k0, k1, k2, k3⟩, _⟩ := hx
    have r0 := bounds_of (hel 0 (by decide)) k0.symm
    have r1 := bounds_of (hel 1 (by decide)) k1.symm
    have r2 := bounds_of (hel 2 (by decide)) k2.symm
    have r3 := bounds_of (hel 3 (by decide)) k3.symm
    have hcs : cs0 = lenC := by
      obtain ⟨l⟩ := cs0
      simp only at hlen r0 r1 r2 r3
      simp only [Nat.zero_mul, Nat.one_mul, Nat.reduceMul, List.drop_zero] at r0 r1 r2 r3
      have e0 : l = l.take 3 ++ l.drop 3 := (List.take_append_drop 3 l).symm
      have e1 : l.drop 3 = (l.drop 3).take 3 ++ l.drop 6 := dd3 l 3
      have e2 : l.drop 6 = (l.drop 6).take 3 ++ l.drop 9 := dd3 l 6
      have e3 : l.drop 9 = (l.drop 9).take 3 := (List.take_of_length_le (by rw [List.length_drop, hlen]; omega)).symm
      rw [r0, e1, r1, e2, r2, e3, r3] at e0
      rw [e0]
      rfl
    subst hcs
    simp only [World.var?, gLen, Option.bind_some] at hv0
    split at hv0
    · rename_i cs t fr hw
      cases hv0
      exact ⟨(Array.getElem?_eq_some_iff.1 hw).1, _, _, hw⟩
    · cases hv0
end Go.Proofs.YtifehdoindbkmaaDoor
