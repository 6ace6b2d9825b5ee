/- Rule; all calls of no machine; New of nothing. -/
import Derived.Test.YtejdfpieblkapaaGreatDoorG30
namespace Go.Proofs.YtejdfpieblkapaaGreatDoor
open Go.RowKit Go.Shelf

theorem rlS_get {rs : List Rx} : ∀ {k i p R : Nat} {r : Rx}, rs[i]? = some r → cntS (rs.take i) ≤ p → p < cntS (rs.take i) + r.cnt → (rlS rs k)[p]? = some R → R = k + i := by
  induction rs with
  | nil => intro k i p R r h; simp at h
  | cons a rs ih =>
    intro k i p R r h h1 h2 h3
    cases i with
    | zero =>
      simp only [List.take_zero, List.getElem?_cons_zero, Option.some.injEq] at h h1 h2
      subst h
      have h0 : cntS ([] : List Rx) = 0 := rfl
      rw [h0] at h2
      simp only [rlS] at h3
      rw [List.getElem?_append_left (by simp; omega)] at h3
      rw [List.getElem?_replicate, if_pos (by omega)] at h3
      simp at h3
      omega
    | succ i =>
      simp only [List.getElem?_cons_succ] at h
      rw [List.take_succ_cons, cntS_cons] at h1 h2
      simp only [rlS] at h3
      rw [List.getElem?_append_right (by simp; omega), List.length_replicate] at h3
      have := ih (k := k + 1) h (by omega) (by omega) h3
      omega
set_option maxRecDepth 100000 in
set_option maxHeartbeats 1000000 in
/-- Rule. -/
theorem ruleOf_any (w : World) (B mb : Nat) (rs : List Rx) (h : MsAt w B mb rs) (p R : Nat) (hp : p < cntS rs) (hR : (rlS rs 0)[p]? = some R) :
    Calls Tryz.prog 21 #[ptr mb, .int .i64 p] w fun e w' => e = .returned (.int .i64 R) ∧ w' = w := by
  have hc2 : cntS rs ≤ 2000 := by obtain ⟨p, X, sv, rv, f, fl, ll, h1, h2, h3, h4⟩ := h; exact h4
  obtain ⟨As, Ar, A, Af, Al, Ae, cs, cr, c, cf, cl, ce, hm, _, hr, _⟩ := h.cells
  have hcr : cntS rs ≤ cr := by obtain ⟨_, _, e, h1, _⟩ := own_form hr; injection e with _ _ e; omega
  obtain ⟨g, rfl, hcl, _, _⟩ := own_cells hr (by omega)
  have hci := hcl p (pv R) (by rw [List.getElem?_map, hR]; rfl)
  have c1 : w.cell? ⟨mb, 1, none⟩ = some (.slice (some ⟨g, 0, none⟩) (cntS rs) cr) := by rw [Lib.cell_of_heap hm]; rfl
  have HPY := Lib.hid (position_yes w mb As (cntS rs) cs p (by rw [Lib.cell_of_heap hm]; rfl) hp (by omega))
  obtain ⟨N, hN⟩ : ∃ N, N = cntS rs := ⟨_, rfl⟩
  rw [← hN] at c1 hp hc2
  have hpi : (p : Int) < N := by omega
  have hp0 : (0 : Int) ≤ p := by omega
  clear h hm hr hcl hN hR
  go_enter Tryz.func21, Tryz.ntmps21
  go_wp2_with fail
  refine HPY.out.mono ?_
  rintro e w1 ⟨rfl, rfl⟩
  go_wp2
  go_ret
  exact ⟨rfl, rfl⟩
set_option maxRecDepth 100000 in
set_option maxHeartbeats 1000000 in
theorem ruleOf_out (w : World) (m : Value) (x : Int) (hR : Calls Tryz.prog 59 #[m, .int .i64 x] w fun e w' => e = .returned (.bool false) ∧ w' = w) :
    Calls Tryz.prog 21 #[m, .int .i64 x] w fun e w' => e = .returned (.int .i64 (-1)) ∧ w' = w := by
  have HR := Lib.hid hR
  clear hR
  go_enter Tryz.func21, Tryz.ntmps21
  go_wp2_with fail
  refine HR.out.mono ?_
  rintro e w1 ⟨rfl, rfl⟩
  go_wp2
  go_ret
  exact ⟨rfl, rfl⟩
set_option maxRecDepth 100000 in
set_option maxHeartbeats 1000000 in
theorem has_out (w : World) (m : Value) (x : Int) (b : Nat) (hR : Calls Tryz.prog 59 #[m, .int .i64 x] w fun e w' => e = .returned (.bool false) ∧ w' = w) :
    Calls Tryz.prog 22 #[m, .int .i64 x, .int .u8 b] w fun e w' => e = .returned (.bool false) ∧ w' = w := by
  have HR := Lib.hid hR
  clear hR
  go_enter Tryz.func22, Tryz.ntmps22
  go_wp2_with fail
  refine HR.out.mono ?_
  rintro e w1 ⟨rfl, rfl⟩
  go_wp2
  go_ret
  exact ⟨rfl, rfl⟩
set_option maxRecDepth 100000 in
set_option maxHeartbeats 1000000 in
theorem empty_out (w : World) (m : Value) (x : Int) (hR : Calls Tryz.prog 57 #[m, .int .i64 x] w fun e w' => e = .returned (.bool false) ∧ w' = w) :
    Calls Tryz.prog 23 #[m, .int .i64 x] w fun e w' => e = .returned (.bool false) ∧ w' = w := by
  have HR := Lib.hid hR
  clear hR
  go_enter Tryz.func23, Tryz.ntmps23
  go_wp2_with fail
  refine HR.out.mono ?_
  rintro e w1 ⟨rfl, rfl⟩
  go_wp2
  go_ret
  exact ⟨rfl, rfl⟩
theorem rule_nil (w : World) (x : Int) : Calls Tryz.prog 57 #[.pointer none, .int .i64 x] w fun e w' => e = .returned (.bool false) ∧ w' = w := rule_no w _ 0 x (rules_nil w) (by omega)
theorem position_nil (w : World) (x : Int) : Calls Tryz.prog 59 #[.pointer none, .int .i64 x] w fun e w' => e = .returned (.bool false) ∧ w' = w := position_no w _ 0 x (len_nil w) (by omega)
set_option maxHeartbeats 1000000 in
/-- New of nothing. -/
theorem new_empty (w : World) : Calls Tryz.prog 13 #[.slice none 0 0] w fun e w' => e = .returned (.tuple #[.pointer none, .int .i64 1]) ∧ w' = w := by
  go_enter Tryz.func13, Tryz.ntmps13
  go_wp2
  go_ret2
  exact ⟨rfl, rfl⟩
set_option maxRecDepth 100000 in
set_option maxHeartbeats 1000000 in
theorem index_nil1 (w : World) (g : Nat) (h : w.cell? ⟨g, 0, none⟩ = some (.pointer none)) : Calls Tryz.prog 78 #[.slice (some ⟨g, 0, none⟩) 1 1, .pointer none] w fun e w' => e = .returned (.int .i64 0) ∧ w' = w := by
  go_enter Tryz.func78, Tryz.ntmps78
  go_wp2_with fail
  go_loopw [8] (fun i wr => i = .int .i64 0 ∧ wr = w) (fun i _ => 1 - (intOf i).toNat)
  case atStart => exact ⟨rfl, rfl⟩
  case round =>
    obtain ⟨rfl, rfl⟩ := hrel
    go_wp2
    go_ret
    exact ⟨rfl, rfl⟩
set_option maxRecDepth 100000 in
set_option maxHeartbeats 1000000 in
theorem contains_nil1 (w : World) (g : Nat) (h : w.cell? ⟨g, 0, none⟩ = some (.pointer none)) : Calls Tryz.prog 47 #[.slice (some ⟨g, 0, none⟩) 1 1, .pointer none] w fun e w' => e = .returned (.bool true) ∧ w' = w := by
  have HI := Lib.hid (index_nil1 w g h)
  go_enter Tryz.func47, Tryz.ntmps47
  go_wp2_with fail
  refine HI.out.mono ?_
  rintro e w1 ⟨rfl, rfl⟩
  go_wp2
  go_ret
  exact ⟨rfl, rfl⟩
set_option maxRecDepth 100000 in
set_option maxHeartbeats 1000000 in
theorem new_nil1 (w : World) (g : Nat) (h : w.cell? ⟨g, 0, none⟩ = some (.pointer none)) : Calls Tryz.prog 13 #[.slice (some ⟨g, 0, none⟩) 1 1] w fun e w' => e = .returned (.tuple #[.pointer none, .int .i64 1]) ∧ w' = w := by
  have HI := Lib.hid (contains_nil1 w g h)
  go_enter Tryz.func13, Tryz.ntmps13
  go_wp2_with fail
  refine HI.out.mono ?_
  rintro e w1 ⟨rfl, rfl⟩
  go_wp2
  go_ret2
  exact ⟨rfl, rfl⟩
set_option maxRecDepth 100000 in
set_option maxHeartbeats 1000000 in
/-- those, of no machine. -/
theorem those_nil (w : World) (fv : Value) : Calls Tryz.prog 52 #[.pointer none, fv] w fun e w' => e = .returned (.slice none 0 0) ∧ w' = w := by
  have HR := Lib.hid (rules_nil w)
  go_enter Tryz.func52, Tryz.ntmps52
  go_wp2_with fail
  refine HR.out.mono ?_
  rintro e w1 ⟨rfl, rfl⟩
  go_wp2_with fail
  go_loopw [5, 9] (fun l i wr => l = .slice none 0 0 ∧ i = .int .i64 0 ∧ wr = w1) (fun _ i _ => 1 - (intOf i).toNat)
  case atStart => exact ⟨rfl, rfl, rfl⟩
  case round =>
    obtain ⟨rfl, rfl, rfl⟩ := hrel
    go_wp2
    go_ret
    exact ⟨rfl, rfl⟩
end Go.Proofs.YtejdfpieblkapaaGreatDoor
