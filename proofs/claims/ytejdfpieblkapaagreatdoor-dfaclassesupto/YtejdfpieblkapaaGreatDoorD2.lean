/- A byte argument. -/
import Derived.Test.YtejdfpieblkapaaGreatDoorD0
import Derived.Test.YtejdfpieblkapaaGreatDoorD1
import Derived.Deep.DeepHandedRow
namespace Go.Proofs.YtejdfpieblkapaaGreatDoor
open Go.ChangeShapes Go.WideShapes Go.ChangeAt Go.RowKit

theorem byte_of {x : Int} (h : (Lit.int .u8 x).wf = true) : ∃ b : UInt8, x = (b.toNat : Int) := by
 have h2 : IntKind.u8.min ≤ x ∧ x ≤ IntKind.u8.max := by simpa [Lit.wf] using h
 have e1 : IntKind.u8.min = 0 := by decide
 have e2 : IntKind.u8.max = 255 := by decide
 rw [e1, e2] at h2
 exact ⟨UInt8.ofNat x.toNat, by simp; omega⟩
end Go.Proofs.YtejdfpieblkapaaGreatDoor

/- An argument that is a slice of texts, and its bulk. -/
namespace Go.Proofs.YtejdfpieblkapaaGreatDoor
open Go.ChangeShapes Go.WideShapes Go.ChangeAt Go.RowKit

theorem bulk_one {H : Type} (d : DataW H) : 1 ≤ Rows.uptoBulk d := by
 cases d with
 | lit l => cases l <;> simp [Rows.uptoBulk]
 | _ => simp [Rows.uptoBulk]
theorem bulk_len {H : Type} (l : List (DataW H)) : l.length ≤ Rows.uptoBulkAll l := by
 induction l with
 | nil => simp [Rows.uptoBulkAll]
 | cons x r ih =>
  have := bulk_one x
  simp only [Rows.uptoBulkAll, List.length_cons]
  omega
theorem bulk_part {H : Type} {d : DataW H} {l : List (DataW H)} (h : d ∈ l) : Rows.uptoBulk d ≤ Rows.uptoBulkAll l := by
 induction l with
 | nil => cases h
 | cons x r ih =>
  simp only [Rows.uptoBulkAll]
  cases List.mem_cons.1 h with
  | inl e => subst e; omega
  | inr e =>
   have := ih e
   omega
set_option maxRecDepth 100000 in
theorem open_textsB {H : Type} {enc : TypeId × Value → H} {W : World} {v : Value} {d : DataW H} {ps : List MemPlace} {base : Nat} (hv : Value.okWide Tryz.prog W .any base 22 v)
  (h : DataW.Trod enc Tryz.prog W 0 (fun _ => true) true 22 v d ps) :
  ∃ (A : Option Addr) (len cap : Nat) (l : List ByteArray), v = .slice A len cap ∧ l.length = len ∧ len ≤ cap ∧ cap ≤ 9223372036854775807 ∧ SsAt W A l ∧ len ≤ Rows.uptoBulk d ∧ ∀ s ∈ l, s.size ≤ Rows.uptoBulk d := by
 obtain ⟨A, len, cap, rfl⟩ := okWide_slice Tryz.underlying22 hv
 obtain ⟨fuel, hf⟩ := h
 rcases open_strings Tryz.underlying22 Tryz.underlying9 Tryz.cells9 hf with ⟨hcs, _⟩ | ⟨a, len', cap', ss, hcs, _, hl, hm, hz, hx, hcell, _⟩
 ·simp [Value.cells] at hcs
  obtain ⟨rfl, rfl, rfl⟩ := hcs
  exact ⟨none, 0, 0, [], rfl, rfl, Nat.le_refl _, by omega, fun i z hz => by simp at hz, Nat.zero_le _, fun s hs => by cases hs⟩
 ·simp [Value.cells] at hcs
  obtain ⟨rfl, rfl, rfl⟩ := hcs
  rw [if_pos rfl] at hz
  obtain ⟨rfl, _⟩ := Prod.mk.inj hx
  refine ⟨some a, len, cap, ss.take len, rfl, by rw [List.length_take]; omega, hl, by unfold maxLen at hm; omega, ?_, ?_, ?_⟩
  ·intro i s hi
   rw [List.getElem?_take] at hi
   split at hi
   ·obtain ⟨h1, h2⟩ := List.getElem?_eq_some_iff.1 hi
    have h3 := hcell i h1
    rw [List.getD_eq_getElem?_getD, hi, Option.getD_some] at h3
    have h0 := hcell 0 (by omega)
    obtain ⟨b, off, spot⟩ := a
    have hspot : spot = none := by simpa [Addr.add] using World.cell?_spot h0
    subst hspot
    exact ⟨b, off, rfl, by rw [← add_plain]; exact h3⟩
   ·cases hi
  ·have h1 := bulk_len (H := H) (strs (ss.take len))
   have h2 : (strs (H := H) (ss.take len)).length = len := by simp [strs, List.length_take]; omega
   simp only [Rows.uptoBulk]
   omega
  ·intro s hs
   have h1 := bulk_part (H := H) (d := .lit (.string s.data.toList)) (l := strs (ss.take len)) (List.mem_map.2 ⟨s, hs, rfl⟩)
   simp only [Rows.uptoBulk] at h1 ⊢
   have h2 : s.data.toList.length = s.size := by simp
   omega
end Go.Proofs.YtejdfpieblkapaaGreatDoor
