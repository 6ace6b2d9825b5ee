/- The library's table, out of the row's condition. -/
import Derived.Test.YtejdfpieblkapaaGreatDoorRows
import Derived.Test.YtejdfpieblkapaaGreatDoorG27
import Derived.ProofKit
import Derived.LaidMore
import Derived.OpenShut
import Derived.PinnedBridge
import Derived.Lay
import Derived.LaidOnce
import Derived.SevenTiedAt
namespace Go.Proofs.YtejdfpieblkapaaGreatDoor
open Go.ChangeShapes Go.WideShapes Go.ChangeAt Go.WideMaps Go.WideElems Go.RowKit

theorem Tryz.own : ownKnob Tryz.prog.godebug = none := by kernel_rfl
theorem gTab : Tryz.prog.globalNamed "math/bits.deBruijn64tab" = some 0 := by kernel_rfl
theorem tTab : (Tryz.prog.globals[0]?).map (·.type) = some 175 := by kernel_rfl
theorem Tryz.cells175 : Tryz.prog.cellsOf 175 = 64 := by kernel_rfl
theorem Tryz.cells5 : Tryz.prog.cellsOf 5 = 1 := by kernel_rfl
abbrev laidT : List (String × DataW Unit) := [("math/bits.deBruijn64tab", Rows.laid_math_bits_deBruijn64tab)]
theorem laid_tab {H : Type} : (Rows.laid_math_bits_deBruijn64tab : DataW H) = .agg (Lib.deBruijn64tab.map fun (v : Nat) => .lit (.int .u8 v)) := rfl
theorem tab_of_laid {W : World} (h : laidMetH Tryz.prog laidT W) : TabH W := by
 rw [MakeChecks.laidMetH_plain _ _ _ (by kernel_rfl)] at h
 obtain ⟨ps, ⟨g0, t0, cs0, f0, p0, q0, hg0, ht0, hv0, hd0, _, _⟩, _, _⟩ := h
 obtain rfl := Option.some.inj (gTab.symm.trans hg0)
 obtain rfl := Option.some.inj (tTab.symm.trans ht0)
 obtain ⟨xs, m, rfl, hx, hlen, hn, hel⟩ := DataW.trod_array Tryz.underlying175 hd0
 rw [Tryz.cells175] at hlen
 simp only [Tryz.cells5, Nat.mul_one] at hel
 rw [laid_tab] at hx
 simp only [Prod.mk.injEq, DataW.agg.injEq] at hx
 have hget : ∀ j, j < Lib.deBruijn64tab.length → cs0[j]? = some (.int .u8 ((Lib.deBruijn64tab.getD j 0 : Nat) : Int)) := fun j hj => by
  have h64 : j < 64 := hj
  have h1 := hel j h64
  have h2 : (xs.map (·.1))[j]? = some (.lit (.int .u8 ((Lib.deBruijn64tab.getD j 0 : Nat) : Int))) := by
   rw [← hx.1, List.getElem?_map, List.getD_eq_getElem?_getD, List.getElem?_eq_getElem hj]; rfl
  rw [List.getElem?_map, Option.map_eq_some_iff] at h2
  obtain ⟨x, hx1, hx2⟩ := h2
  rw [hx1] at h1
  obtain ⟨f, e0, e1, _⟩ := DataW.trod_int Tryz.underlying5 h1
  rw [e1] at hx2
  simp only [DataW.lit.injEq, Lit.int.injEq, true_and] at hx2
  rw [hx2] at e0
  have h3 : (cs0.toList.drop j)[0]? = some (.int .u8 ((Lib.deBruijn64tab.getD j 0 : Nat) : Int)) := by
   have : ((cs0.toList.drop j).take 1)[0]? = some (.int .u8 ((Lib.deBruijn64tab.getD j 0 : Nat) : Int)) := by rw [e0]; rfl
   rwa [List.getElem?_take_of_lt (by omega)] at this
  rw [List.getElem?_drop] at h3
  simpa using h3
 simp only [World.var?, gTab, Option.bind_some] at hv0
 split at hv0
 ·rename_i cs t fr hw
  cases hv0
  exact ⟨_, _, _, hw, hget⟩
 ·cases hv0
end Go.Proofs.YtejdfpieblkapaaGreatDoor
