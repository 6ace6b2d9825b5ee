/- Own: what its calls want. -/
import Derived.Test.YtejdfpieblkapaaGreatDoorG41
import Derived.Test.YtejdfpieblkapaaGreatDoorG34
namespace Go.Proofs.YtejdfpieblkapaaGreatDoor
open Go.RowKit Go.Shelf

theorem tm_size : ∀ r : Rx, r.tm + 1 ≤ 2 * r.size := by
  intro r
  induction r with
  | set s => simp [Rx.tm, Rx.size]
  | empty => simp [Rx.tm, Rx.size]
  | cat a b iha ihb => simp only [Rx.tm, Rx.size] at *; omega
  | or a b iha ihb => simp only [Rx.tm, Rx.size] at *; omega
  | star a ih => simp only [Rx.tm, Rx.size] at *; omega
theorem tm_sum {rs : List Rx} (h : ∀ r ∈ rs, r.size ≤ 400) : (rs.map Rx.tm).sum ≤ 801 * rs.length := by
  induction rs with
  | nil => simp
  | cons r rs ih =>
    have h1 := tm_size r
    have h2 := h r (by simp)
    have h3 := ih (fun x hx => h x (by simp [hx]))
    simp only [List.map_cons, List.sum_cons, List.length_cons]
    omega
theorem row_at {w : World} {base n c : Nat} {A : Option Addr} {bs : List Nat} (h : w.ownsRow base 68 1 (.slice A n c) n (bs.map ptr)) : RowAt w A bs := by
  rcases h.2 with ⟨hv, hn⟩ | ⟨g, cap, cur, hv, hb, hh, r1, r2, r3, r4⟩
  · have := h.1
    simp at this
    exact .inl (List.length_eq_zero_iff.1 (by omega))
  · injection hv with e1 e2 e3
    refine .inr ⟨g, cur, _, e1, hh, fun j q hj => ?_⟩
    have hu : (bs.map ptr)[j]? = some (ptr q) := by rw [List.getElem?_map, hj]; rfl
    rw [← r4] at hu
    have hlt : j < n * 1 := by
      have := (List.getElem?_eq_some_iff.1 hu).1
      rw [List.length_take] at this
      omega
    rw [List.getElem?_take_of_lt hlt] at hu
    simpa using hu
set_option maxHeartbeats 1000000 in
theorem new_zero (w : World) (A : Option Addr) (c : Nat) : Calls Tryz.prog 13 #[.slice A 0 c] w fun e w' => e = .returned (.tuple #[.pointer none, .int .i64 1]) ∧ w' = w := by
  go_enter Tryz.func13, Tryz.ntmps13
  go_wp2
  go_ret2
  exact ⟨rfl, rfl⟩
theorem MsAt.le {w : World} {B mb : Nat} {rs : List Rx} (h : MsAt w B mb rs) : cntS rs ≤ 2000 := by obtain ⟨p, X, sv, rv, f, fl, ll, h1, h2, h3, h4⟩ := h; exact h4
theorem rules_ms (w : World) (B mb : Nat) (rs : List Rx) (h : MsAt w B mb rs) : Calls Tryz.prog 18 #[ptr mb] w fun e w' => e = .returned (.int .i64 (rs.length : Nat)) ∧ w' = w := by
  obtain ⟨As, Ar, A, Af, Al, Ae, cs, cr, c, cf, cl, ce, hm, _⟩ := h.cells
  exact rules_any w mb Ae _ ce (by rw [Lib.cell_of_heap hm]; rfl)
theorem len_ms (w : World) (B mb : Nat) (rs : List Rx) (h : MsAt w B mb rs) : Calls Tryz.prog 17 #[ptr mb] w fun e w' => e = .returned (.int .i64 (cntS rs : Nat)) ∧ w' = w := by
  obtain ⟨As, Ar, A, Af, Al, Ae, cs, cr, c, cf, cl, ce, hm, _⟩ := h.cells
  exact len_any w mb As _ cs (by rw [Lib.cell_of_heap hm]; rfl)
/-- New, of what Rules answered. -/
def NwTo (rs : List Rx) (w : World) (e : Ending) (w' : World) : Prop := Below w.heap.size w w' ∧ ((∃ x : Int, x ≠ 0 ∧ e = .returned (.tuple #[.pointer none, .int .i64 x])) ∨ (∃ B mb, e = .returned (.tuple #[ptr mb, .int .i64 0]) ∧ MsAt w' B mb rs ∧ rs.length ≤ 6))
theorem new_of {w0 w : World} {va vb : Value} {rs rb : List Rx} {bs : List Nat} {cb : List Value} {Q : Nat → Prop} (h : RuS w0 w va rs bs vb rb cb Q) (h6 : rs.length ≤ 6) (h4 : ∀ r ∈ rs, r.size ≤ 400) : Calls Tryz.prog 13 #[va] w (NwTo rs w) := by
  obtain ⟨A, c, rfl, h1, h2⟩ := own_form h.oa
  have hl : bs.length = rs.length := h.na.1.symm
  by_cases h0 : bs.length = 0
  · rw [h0]
    refine (new_zero w A c).mono ?_
    rintro e w' ⟨rfl, rfl⟩
    exact ⟨Below.refl _ _, .inl ⟨1, by decide, rfl⟩⟩
  · refine (new_ms w A bs.length c bs rs (row_at h.oa) rfl h1 (by omega) (by omega) h.na.nds (by have := tm_sum h4; omega)).mono ?_
    rintro e w' ⟨⟨_, rfl⟩ | ⟨mb, rfl, hm⟩, hb⟩
    · exact ⟨hb, .inl ⟨3, by decide, rfl⟩⟩
    · exact ⟨hb, .inr ⟨_, mb, rfl, hm, h6⟩⟩
end Go.Proofs.YtejdfpieblkapaaGreatDoor
