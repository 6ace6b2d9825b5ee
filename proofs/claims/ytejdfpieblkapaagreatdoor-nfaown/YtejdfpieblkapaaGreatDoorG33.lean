/- None of a set. -/
import Derived.Test.YtejdfpieblkapaaGreatDoorG32
namespace Go.Proofs.YtejdfpieblkapaaGreatDoor
open Go.RowKit Go.Shelf

theorem all_zero_take {ws : List Nat} {k : Nat} (h : ∀ x ∈ ws.take k, x = 0) {x : Nat} (hx : ws[k]? = some x) (h0 : x = 0) : ∀ y ∈ ws.take (k + 1), y = 0 := by
  rw [List.take_add_one, hx]
  intro y hy
  rcases List.mem_append.1 hy with hy | hy
  · exact h y hy
  · simp at hy; rw [hy, h0]
set_option maxRecDepth 100000 in
set_option maxHeartbeats 1000000 in
/-- None. -/
theorem none_any (w : World) (g nw : Nat) (ws : List Nat) (h : BsAt w g ws) (hl : ws.length = nw) (hn : nw ≤ 1000000) :
    Calls Tryz.prog 86 #[bsV g nw] w fun e w' => e = .returned (.bool (ws.all (· == 0))) ∧ w' = w := by
  have HH := Lib.hid h; have HL := Lib.hid hl
  obtain ⟨β, hβ⟩ : ∃ β, β = ws.all (· == 0) := ⟨_, rfl⟩
  rw [← hβ]
  have HB := Lib.hid hβ
  clear h hl hβ
  go_enter Tryz.func86, Tryz.ntmps86
  go_wp2_with fail
  go_loopw [7] (fun i wr => ∃ k : Nat, k ≤ nw ∧ i = .int .i64 k ∧ Hid (∀ x ∈ ws.take k, x = 0) ∧ wr = w) (fun i _ => nw - (intOf i).toNat)
  case atStart => exact ⟨0, Nat.zero_le _, rfl, (show ∀ x ∈ ws.take 0, x = 0 from fun x hx => by simp at hx), rfl⟩
  case round =>
    obtain ⟨k, hk, rfl, HZ, rfl⟩ := hrel
    by_cases hlt : k < nw
    · have hki : (k : Int) < nw := by omega
      have hk0 : (0 : Int) ≤ k := by omega
      have hkw : k < ws.length := by rw [HL.out]; exact hlt
      obtain ⟨c1, _⟩ := HH.out.cell hkw
      obtain ⟨x, hx⟩ : ∃ x, x = ws[k] := ⟨_, rfl⟩
      rw [← hx] at c1
      have HX := Lib.hid (show ws[k]? = some x by rw [hx]; exact List.getElem?_eq_getElem hkw)
      clear hx hkw
      by_cases h0 : x = 0
      · have HZ2 := Lib.hid (all_zero_take HZ.out HX.out h0)
        subst h0
        go_wp2
        go_roundw
        case rel => exact ⟨k + 1, by omega, by go_num, HZ2, trivial⟩
        case measure => simp [intOf]; omega
      · have hne : ((x : Int) == 0) = false := by simp; omega
        have hne2 : ¬ (x : Int) = 0 := by omega
        have hf : β = false := by
          rw [HB.out, List.all_eq_false]
          exact ⟨x, List.mem_of_getElem? HX.out, by simpa using h0⟩
        subst hf
        go_wp2
        go_ret
        exact ⟨rfl, rfl⟩
    · obtain rfl : k = nw := by omega
      have hf : β = true := by
        rw [HB.out, List.all_eq_true]
        intro x hx
        have := HZ.out x (by rw [List.take_of_length_le (by rw [HL.out]; exact Nat.le_refl _)]; exact hx)
        simp [this]
      subst hf
      go_wp2
      go_ret
      exact ⟨rfl, rfl⟩
end Go.Proofs.YtejdfpieblkapaaGreatDoor
