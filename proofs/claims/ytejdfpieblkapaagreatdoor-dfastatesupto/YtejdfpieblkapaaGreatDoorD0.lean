/- The library's table, out of the row's condition. -/
import Derived.Test.YtejdfpieblkapaaGreatDoorRows
import Derived.Test.YtejdfpieblkapaaGreatDoorG27
import Derived.ProofKit
import Derived.LaidMore
import Derived.OpenShut
import Derived.PinnedBridge
import Derived.Lay
import Derived.LaidOnce
import Derived.SevenTiedAt
import Derived.Test.YtejdfpieblkapaaGreatDoorG40
import Derived.SliceStrings
import Derived.Deep.DeepHandedRow
namespace Go.Proofs.YtejdfpieblkapaaGreatDoor
open Go.ChangeShapes Go.WideShapes Go.ChangeAt Go.WideMaps Go.WideElems Go.RowKit

theorem Tryz.own : ownKnob Tryz.prog.godebug = none := by kernel_rfl
theorem gTab : Tryz.prog.globalNamed "math/bits.deBruijn64tab" = some 0 := by kernel_rfl
theorem tTab : (Tryz.prog.globals[0]?).map (·.type) = some 175 := by kernel_rfl
theorem Tryz.cells175 : Tryz.prog.cellsOf 175 = 64 := by kernel_rfl
theorem Tryz.cells5 : Tryz.prog.cellsOf 5 = 1 := by kernel_rfl
abbrev laidT : List (String × DataW Unit) := [("math/bits.deBruijn64tab", Rows.laid_math_bits_deBruijn64tab)]
theorem laid_tab {H : Type} : (Rows.laid_math_bits_deBruijn64tab : DataW H) = .agg (Lib.deBruijn64tab.map fun (v : Nat) => .lit (.int .u8 v)) := rfl
theorem tab_of_laid {W : World} (h : laidMetH Tryz.prog laidT W) : TabH W := by
 rw [MakeChecks.laidMetH_plain _ _ _ (by kernel_rfl)] at h
 obtain ⟨ps, ⟨g0, t0, cs0, f0, p0, q0, hg0, ht0, hv0, hd0, _, _⟩, _, _⟩ := h
 obtain rfl := Option.some.inj (gTab.symm.trans hg0)
 obtain rfl := Option.some.inj (tTab.symm.trans ht0)
 obtain ⟨xs, m, rfl, hx, hlen, hn, hel⟩ := DataW.trod_array Tryz.underlying175 hd0
 rw [Tryz.cells175] at hlen
 simp only [Tryz.cells5, Nat.mul_one] at hel
 rw [laid_tab] at hx
 simp only [Prod.mk.injEq, DataW.agg.injEq] at hx
 have hget : ∀ j, j < Lib.deBruijn64tab.length → cs0[j]? = some (.int .u8 ((Lib.deBruijn64tab.getD j 0 : Nat) : Int)) := fun j hj => by
  have h64 : j < 64 := hj
  have h1 := hel j h64
  have h2 : (xs.map (·.1))[j]? = some (.lit (.int .u8 ((Lib.deBruijn64tab.getD j 0 : Nat) : Int))) := by
   rw [← hx.1, List.getElem?_map, List.getD_eq_getElem?_getD, List.getElem?_eq_getElem hj]; rfl
  rw [List.getElem?_map, Option.map_eq_some_iff] at h2
  obtain ⟨x, hx1, hx2⟩ := h2
  rw [hx1] at h1
  obtain ⟨f, e0, e1, _⟩ := DataW.trod_int Tryz.underlying5 h1
  rw [e1] at hx2
  simp only [DataW.lit.injEq, Lit.int.injEq, true_and] at hx2
  rw [hx2] at e0
  have h3 : (cs0.toList.drop j)[0]? = some (.int .u8 ((Lib.deBruijn64tab.getD j 0 : Nat) : Int)) := by
   have : ((cs0.toList.drop j).take 1)[0]? = some (.int .u8 ((Lib.deBruijn64tab.getD j 0 : Nat) : Int)) := by rw [e0]; rfl
   rwa [List.getElem?_take_of_lt (by omega)] at this
  rw [List.getElem?_drop] at h3
  simpa using h3
 simp only [World.var?, gTab, Option.bind_some] at hv0
 split at hv0
 ·rename_i cs t fr hw
  cases hv0
  exact ⟨_, _, _, hw, hget⟩
 ·cases hv0
end Go.Proofs.YtejdfpieblkapaaGreatDoor

/- An argument that is a slice of texts. -/
namespace Go.Proofs.YtejdfpieblkapaaGreatDoor
open Go.ChangeShapes Go.WideShapes Go.ChangeAt Go.RowKit

theorem Tryz.cells9 : Tryz.prog.cellsOf 9 = 1 := by kernel_rfl
theorem Tryz.laidOut : laidOutB Tryz.prog = true := by kernel_rfl
set_option maxRecDepth 100000 in
theorem open_textsAt {H : Type} {enc : TypeId × Value → H} {W : World} {v : Value} {d : DataW H} {ps : List MemPlace} {base : Nat} (hv : Value.okWide Tryz.prog W .any base 22 v)
  (h : DataW.Trod enc Tryz.prog W 0 (fun _ => true) true 22 v d ps) :
  ∃ (A : Option Addr) (len cap : Nat) (l : List ByteArray), v = .slice A len cap ∧ l.length = len ∧ len ≤ cap ∧ cap ≤ 9223372036854775807 ∧ SsAt W A l := by
 obtain ⟨A, len, cap, rfl⟩ := okWide_slice Tryz.underlying22 hv
 obtain ⟨fuel, hf⟩ := h
 rcases open_strings Tryz.underlying22 Tryz.underlying9 Tryz.cells9 hf with ⟨hcs, _⟩ | ⟨a, len', cap', ss, hcs, _, hl, hm, hz, _, hcell, _⟩
 ·simp [Value.cells] at hcs
  obtain ⟨rfl, rfl, rfl⟩ := hcs
  exact ⟨none, 0, 0, [], rfl, rfl, Nat.le_refl _, by omega, fun i z hz => by simp at hz⟩
 ·simp [Value.cells] at hcs
  obtain ⟨rfl, rfl, rfl⟩ := hcs
  rw [if_pos rfl] at hz
  refine ⟨some a, len, cap, ss.take len, rfl, by rw [List.length_take]; omega, hl, by unfold maxLen at hm; omega, ?_⟩
  intro i s hi
  rw [List.getElem?_take] at hi
  split at hi
  ·obtain ⟨h1, h2⟩ := List.getElem?_eq_some_iff.1 hi
   have h3 := hcell i h1
   rw [List.getD_eq_getElem?_getD, hi, Option.getD_some] at h3
   have h0 := hcell 0 (by omega)
   obtain ⟨b, off, spot⟩ := a
   have hspot : spot = none := by simpa [Addr.add] using World.cell?_spot h0
   subst hspot
   exact ⟨b, off, rfl, by rw [← add_plain]; exact h3⟩
  ·cases hi
end Go.Proofs.YtejdfpieblkapaaGreatDoor

/- A byte argument. -/
namespace Go.Proofs.YtejdfpieblkapaaGreatDoor
open Go.ChangeShapes Go.WideShapes Go.ChangeAt Go.RowKit

theorem byte_of {x : Int} (h : (Lit.int .u8 x).wf = true) : ∃ b : UInt8, x = (b.toNat : Int) := by
 have h2 : IntKind.u8.min ≤ x ∧ x ≤ IntKind.u8.max := by simpa [Lit.wf] using h
 have e1 : IntKind.u8.min = 0 := by decide
 have e2 : IntKind.u8.max = 255 := by decide
 rw [e1, e2] at h2
 exact ⟨UInt8.ofNat x.toNat, by simp; omega⟩
end Go.Proofs.YtejdfpieblkapaaGreatDoor

/- An argument that is a slice of texts, and its bulk. -/
namespace Go.Proofs.YtejdfpieblkapaaGreatDoor
open Go.ChangeShapes Go.WideShapes Go.ChangeAt Go.RowKit

theorem bulk_one {H : Type} (d : DataW H) : 1 ≤ Rows.uptoBulk d := by
 cases d with
 | lit l => cases l <;> simp [Rows.uptoBulk]
 | _ => simp [Rows.uptoBulk]
theorem bulk_len {H : Type} (l : List (DataW H)) : l.length ≤ Rows.uptoBulkAll l := by
 induction l with
 | nil => simp [Rows.uptoBulkAll]
 | cons x r ih =>
  have := bulk_one x
  simp only [Rows.uptoBulkAll, List.length_cons]
  omega
theorem bulk_part {H : Type} {d : DataW H} {l : List (DataW H)} (h : d ∈ l) : Rows.uptoBulk d ≤ Rows.uptoBulkAll l := by
 induction l with
 | nil => cases h
 | cons x r ih =>
  simp only [Rows.uptoBulkAll]
  cases List.mem_cons.1 h with
  | inl e => subst e; omega
  | inr e =>
   have := ih e
   omega
set_option maxRecDepth 100000 in
theorem open_textsB {H : Type} {enc : TypeId × Value → H} {W : World} {v : Value} {d : DataW H} {ps : List MemPlace} {base : Nat} (hv : Value.okWide Tryz.prog W .any base 22 v)
  (h : DataW.Trod enc Tryz.prog W 0 (fun _ => true) true 22 v d ps) :
  ∃ (A : Option Addr) (len cap : Nat) (l : List ByteArray), v = .slice A len cap ∧ l.length = len ∧ len ≤ cap ∧ cap ≤ 9223372036854775807 ∧ SsAt W A l ∧ len ≤ Rows.uptoBulk d ∧ ∀ s ∈ l, s.size ≤ Rows.uptoBulk d := by
 obtain ⟨A, len, cap, rfl⟩ := okWide_slice Tryz.underlying22 hv
 obtain ⟨fuel, hf⟩ := h
 rcases open_strings Tryz.underlying22 Tryz.underlying9 Tryz.cells9 hf with ⟨hcs, _⟩ | ⟨a, len', cap', ss, hcs, _, hl, hm, hz, hx, hcell, _⟩
 ·simp [Value.cells] at hcs
  obtain ⟨rfl, rfl, rfl⟩ := hcs
  exact ⟨none, 0, 0, [], rfl, rfl, Nat.le_refl _, by omega, fun i z hz => by simp at hz, Nat.zero_le _, fun s hs => by cases hs⟩
 ·simp [Value.cells] at hcs
  obtain ⟨rfl, rfl, rfl⟩ := hcs
  rw [if_pos rfl] at hz
  obtain ⟨rfl, _⟩ := Prod.mk.inj hx
  refine ⟨some a, len, cap, ss.take len, rfl, by rw [List.length_take]; omega, hl, by unfold maxLen at hm; omega, ?_, ?_, ?_⟩
  ·intro i s hi
   rw [List.getElem?_take] at hi
   split at hi
   ·obtain ⟨h1, h2⟩ := List.getElem?_eq_some_iff.1 hi
    have h3 := hcell i h1
    rw [List.getD_eq_getElem?_getD, hi, Option.getD_some] at h3
    have h0 := hcell 0 (by omega)
    obtain ⟨b, off, spot⟩ := a
    have hspot : spot = none := by simpa [Addr.add] using World.cell?_spot h0
    subst hspot
    exact ⟨b, off, rfl, by rw [← add_plain]; exact h3⟩
   ·cases hi
  ·have h1 := bulk_len (H := H) (strs (ss.take len))
   have h2 : (strs (H := H) (ss.take len)).length = len := by simp [strs, List.length_take]; omega
   simp only [Rows.uptoBulk]
   omega
  ·intro s hs
   have h1 := bulk_part (H := H) (d := .lit (.string s.data.toList)) (l := strs (ss.take len)) (List.mem_map.2 ⟨s, hs, rfl⟩)
   simp only [Rows.uptoBulk] at h1 ⊢
   have h2 : s.data.toList.length = s.size := by simp
   omega
end Go.Proofs.YtejdfpieblkapaaGreatDoor
