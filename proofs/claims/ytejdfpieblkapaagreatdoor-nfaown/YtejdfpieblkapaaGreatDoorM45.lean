/- Carried from another seat. -/
import Derived.Test.YtejdfpieblkapaaGreatDoorM42
namespace Go.Proofs.YtejdfpieblkapaaGreatDoor
open Go.RowKit Go.Shelf


/-- What Parse answers: a node of what is written, or an error. -/
def PaTo (s : ByteArray) (w : World) (e : Ending) (w' : World) : Prop :=
  Below w.heap.size w w' ∧ ((∃ r nb, parseF s.data.toList = some r ∧ r.size ≤ 400 ∧ e = .returned (.tuple #[ptr nb, .int .i64 0, .int .i64 0]) ∧ NdAt w' r nb ∧ NdQ w' (fun k => w.heap.size ≤ k) r nb) ∨ (parseF s.data.toList = none ∧ ∃ (p c : Int), c ≠ 0 ∧ e = .returned (.tuple #[.pointer none, .int .i64 p, .int .i64 c])))
theorem finF_one (g : Grp) : finF [] g = if g.whole.size ≤ 400 then some g.whole else none := by unfold finF; rw [if_pos rfl]

/-- The parser as it begins. -/
theorem ps_start (w : World) (s : ByteArray) (w1 : World) (hb : Below w.heap.size w w1) (h1 : w1.heap[w.heap.size]? = some (.cells #[.slice none 0 0, .slice none 0 0] 168 (0, 0))) (h2 : w1.heap[w.heap.size + 1]? = some (.cells #[.string s, .int .i64 0, .slice (some ⟨w.heap.size, 0, none⟩) 1 1, .int .i64 0, .bool false] 123 (0, 0))) : PS w w1 (w.heap.size + 1) s 0 (0 : Nat) (some ([], g0)) := by
  refine ⟨w.heap.size, 1, fun i => if i = w.heap.size then 2 else if i = w.heap.size + 1 then 1 else if i < w.heap.size then 1 else 0, [.slice none 0 0, .slice none 0 0], ⟨h2, ⟨rfl, .inr ⟨w.heap.size, 1, _, rfl, Nat.zero_le _, h1, Nat.le_refl _, by unfold maxLen; omega, rfl, rfl⟩⟩, rfl, fun c v rs a1 a2 _ => ?_, by simp, by simp, fun i hi => ?_, hb⟩, fun i hi => ?_⟩
  · have hc : c = 0 ∨ c = 1 := by
      have := (List.getElem?_eq_some_iff.1 a1).1
      simp at this; omega
    rcases hc with rfl | rfl
    · have e1 : Value.slice none 0 0 = v := by simpa using a1
      have e2 : ([] : List Rx) = rs := by simpa [flatG, g0] using a2
      subst e1; subst e2
      exact RwAt.nil _ _ _
    · have e1 : Value.slice none 0 0 = v := by simpa using a1
      have e2 : ([] : List Rx) = rs := by simpa [flatG, g0] using a2
      subst e1; subst e2
      exact RwAt.nil _ _ _
  · refine ⟨?_, by omega⟩
    show (if i = w.heap.size then 2 else if i = w.heap.size + 1 then 1 else if i < w.heap.size then 1 else 0) = 1
    rw [if_neg (by omega), if_neg (by omega), if_pos hi]
  · have := lt_of_heap h2
    simp only []
    rw [if_neg (by omega), if_neg (by omega), if_neg (by omega)]

theorem run_mk52 (w : World) : (Instr.makeSlice 121 (.int .i64 1) (.int .i64 1)).run Tryz.prog w = .ok (.slice (some ⟨w.heap.size, 0, none⟩) 1 1) (w.alloc (.cells #[.slice none 0 0, .slice none 0 0] 168)) := by
  obtain ⟨i, hi, hz, hsz, hby⟩ := info_parts Tryz.info168
  have h := run_makeSlice (P := Tryz.prog) w 121 168 i _ Tryz.underlying121 hi hz .i64 .i64 1 1 (by omega) (by omega) (by rw [hsz]; decide) (by rw [hby]; decide) (by omega)
  have e : madeCells (Value.agg #[.slice none 0 0, .slice none 0 0]).cells (Int.toNat 1 * 2) = #[.slice none 0 0, .slice none 0 0] := by kernel_rfl
  rw [h, hsz, e]; rfl
set_option maxRecDepth 100000 in
set_option maxHeartbeats 4000000 in
theorem parse_any (s : ByteArray) (w : World) (hs : s.size ≤ 1000000) : Calls Tryz.prog 45 #[.string s] w (PaTo s w) := by
  have hmk := run_mk52 w
  have hb2 : Below w.heap.size w ((w.alloc (.cells #[.slice none 0 0, .slice none 0 0] 168)).alloc (.cells #[.string s, .int .i64 0, .slice (some ⟨w.heap.size, 0, none⟩) 1 1, .int .i64 0, .bool false] 123)) := ((Below.refl _ w).alloc (Nat.le_refl _) _).alloc (by simp) _
  have hps := ps_start w s _ hb2 ((Below.heap_alloc _ _ _ (by simp)).trans (heap_alloc_new w _)) (heap_alloc2_new w _ _)
  have HR := Lib.hid (pread_any w _ (w.heap.size + 1) s hps hs)
  clear hb2 hps
  go_enter Tryz.func45, Tryz.ntmps45
  go_wp2_with fail
  refine HR.out.mono ?_
  rintro e w1 hpost
  rcases hpost with ⟨g, G, cap, i, d, rfl, hpi, hfin, hok⟩ | ⟨i, d, rfl, hp, hnone⟩ | ⟨rfl, hnone, i, d, st, hp⟩
  · obtain ⟨_, _, _, _, c4, _⟩ := ps_cells hpi.ps
    have HL := Lib.hid (last_ps w1 (w.heap.size + 1) G [g].length 0 cap s i d hpi.ps rfl (by omega))
    have HPI := Lib.hid hpi; have HOK := Lib.hid hok; have HFI := Lib.hid hfin
    clear hpi hok hfin
    go_wp2_with fail
    refine HL.out.mono ?_
    rintro e w2 ⟨rfl, hb2⟩
    have HW := Lib.hid (whole_any w w2 (w.heap.size + 1) G cap s i d [] g (HPI.out.below hb2) HOK.out)
    clear hb2
    go_wp2_with fail
    refine HW.out.mono ?_
    rintro e w3 ⟨nb, rfl, ρ, vs, X1, X2, X3⟩
    obtain ⟨sz, _, hbl⟩ := nd_size X3.nd
    have HB := Lib.hid X1.bel; have HN := Lib.hid X3.nd
    have HNQ := Lib.hid (X3.mono (Q' := fun k => w.heap.size ≤ k) (fun k _ hk => X1.lo (.inl (by rw [hk]; omega))))
    have hfin := HFI.out
    rw [finF_one] at hfin
    obtain ⟨z, hz⟩ : ∃ z, z = g.whole.size := ⟨_, rfl⟩
    rw [← hz] at sz hfin
    clear X1 X2 X3
    by_cases h4 : z ≤ 400
    · have h4i : ¬ (400 : Int) < (z : Int) := by omega
      rw [if_pos h4] at hfin
      have HFn := Lib.hid hfin
      have HZ := Lib.hid (show g.whole.size ≤ 400 by omega)
      clear hfin hz
      go_wp2_with fail
      refine bodyPost_ret (results_tmp3 rfl _ _ _) rfl ?_
      exact ⟨HB.out, .inl ⟨_, nb, HFn.out, HZ.out, rfl, HN.out, HNQ.out⟩⟩
    · have h4i : (400 : Int) < (z : Int) := by omega
      rw [if_neg h4] at hfin
      have HFn := Lib.hid hfin
      clear hfin hz
      go_wp2_with fail
      refine bodyPost_ret (results_tmp3 rfl _ _ _) rfl ?_
      exact ⟨HB.out, .inr ⟨HFn.out, 0, 3, by omega, rfl⟩⟩
  · obtain ⟨_, _, _, _, c4, _⟩ := ps_cells hp.1
    have HB := Lib.hid hp.bel; have HN := Lib.hid hnone
    clear hp hnone
    go_wp2_with fail
    refine bodyPost_ret (results_tmp3 rfl _ _ _) rfl ?_
    exact ⟨HB.out, .inr ⟨HN.out, 0, 3, by omega, rfl⟩⟩
  · obtain ⟨_, c1, _⟩ := hp.cells
    have HB := Lib.hid hp.bel; have HN := Lib.hid hnone
    clear hp hnone
    go_wp2_with fail
    go_quiet (fail)
    go_wp2_with fail
    refine bodyPost_ret (results_tmp3 rfl _ _ _) rfl ?_
    exact ⟨HB.out.trans (below_drewN _ _ _), .inr ⟨HN.out, i, 4, by omega, rfl⟩⟩
end Go.Proofs.YtejdfpieblkapaaGreatDoor

/- Carried from another seat. -/
namespace Go.Proofs.YtejdfpieblkapaaGreatDoor
open Go.RowKit Go.Shelf


/-- What is left of an expression behind a byte. -/
def Rx.dv (c : UInt8) : Rx → Rx
  | .set s => if s.has c = true then .empty else Rx.none'
  | .empty => Rx.none'
  | .cat a b => if a.nul = true then .or (.cat (a.dv c) b) (b.dv c) else .cat (a.dv c) b
  | .or a b => .or (a.dv c) (b.dv c)
  | .star a => .cat (a.dv c) (.star a)
theorem none_L (u : List UInt8) : ¬ Rx.none'.L u := by
  rintro ⟨c, _, hc⟩
  have h : Ws.hasN ⟨0, 0, 0, 0⟩ c.toNat = true := hc
  unfold Ws.hasN Ws.word at h
  split at h <;> simp at h
theorem Rx.nul_iff : ∀ r : Rx, r.nul = true ↔ r.L []
  | .set s => ⟨fun h => by simp [Rx.nul] at h, fun ⟨c, h, _⟩ => by simp at h⟩
  | .empty => ⟨fun _ => rfl, fun _ => rfl⟩
  | .cat a b => by
    show (a.nul && b.nul) = true ↔ ∃ x y, [] = x ++ y ∧ a.L x ∧ b.L y
    rw [Bool.and_eq_true, a.nul_iff, b.nul_iff]
    refine ⟨fun h => ⟨[], [], rfl, h.1, h.2⟩, fun ⟨x, y, h, h1, h2⟩ => ?_⟩
    have h' := List.append_eq_nil_iff.1 h.symm
    rw [h'.1] at h1; rw [h'.2] at h2
    exact ⟨h1, h2⟩
  | .or a b => by
    show (a.nul || b.nul) = true ↔ a.L [] ∨ b.L []
    rw [Bool.or_eq_true, a.nul_iff, b.nul_iff]
  | .star a => ⟨fun _ => Many.nil, fun _ => rfl⟩
theorem many_cons {P : List UInt8 → Prop} {c : UInt8} {u : List UInt8} : Many P (c :: u) ↔ ∃ x y, u = x ++ y ∧ P (c :: x) ∧ Many P y := by
  constructor
  · intro h
    generalize hv : c :: u = v at h
    induction h with
    | nil => cases hv
    | cons x y hx hy ih =>
      cases x with
      | nil => exact ih hv
      | cons d x =>
        injection hv with e1 e2
        subst e1
        exact ⟨x, y, e2, hx, hy⟩
  · rintro ⟨x, y, rfl, h1, h2⟩
    exact Many.cons (c :: x) y h1 h2
theorem Rx.dv_iff (c : UInt8) : ∀ (r : Rx) (u : List UInt8), (r.dv c).L u ↔ r.L (c :: u)
  | .set s, u => by
    show (if s.has c = true then Rx.empty else Rx.none').L u ↔ _
    split
    · rename_i h
      refine ⟨fun (hu : u = []) => ⟨c, by rw [hu], h⟩, fun ⟨d, hd, _⟩ => ?_⟩
      injection hd
    · rename_i h
      refine ⟨fun hu => absurd hu (none_L u), fun ⟨d, hd, hs⟩ => ?_⟩
      injection hd with e1 e2
      rw [← e1] at hs
      exact absurd hs h
  | .empty, u => ⟨fun hu => absurd hu (none_L u), fun h => by cases h⟩
  | .cat a b, u => by
    have key : (∃ x y, u = x ++ y ∧ (a.dv c).L x ∧ b.L y) ↔ ∃ x y, u = x ++ y ∧ a.L (c :: x) ∧ b.L y := by simp only [a.dv_iff c]
    have h2 : (Rx.cat a b).L (c :: u) ↔ (a.L [] ∧ b.L (c :: u)) ∨ ∃ x y, u = x ++ y ∧ a.L (c :: x) ∧ b.L y := by
      constructor
      · rintro ⟨x, y, h, h1, h2⟩
        cases x with
        | nil => exact .inl ⟨h1, by rw [h]; exact h2⟩
        | cons d x =>
          injection h with e1 e2
          subst e1
          exact .inr ⟨x, y, e2, h1, h2⟩
      · rintro (⟨h1, h2⟩ | ⟨x, y, rfl, h1, h2⟩)
        · exact ⟨[], _, rfl, h1, h2⟩
        · exact ⟨c :: x, y, rfl, h1, h2⟩
    rw [h2]
    show (if a.nul = true then Rx.or (.cat (a.dv c) b) (b.dv c) else .cat (a.dv c) b).L u ↔ _
    split
    · rename_i h
      show ((∃ x y, u = x ++ y ∧ (a.dv c).L x ∧ b.L y) ∨ (b.dv c).L u) ↔ _
      rw [key, b.dv_iff c]
      have := a.nul_iff.1 h
      constructor
      · rintro (h | h)
        · exact .inr h
        · exact .inl ⟨this, h⟩
      · rintro (h | h)
        · exact .inr h.2
        · exact .inl h
    · rename_i h
      show (∃ x y, u = x ++ y ∧ (a.dv c).L x ∧ b.L y) ↔ _
      rw [key]
      refine ⟨.inr, fun h' => h'.elim (fun h' => absurd (a.nul_iff.2 h'.1) h) id⟩
  | .or a b, u => by
    show (a.dv c).L u ∨ (b.dv c).L u ↔ a.L (c :: u) ∨ b.L (c :: u)
    rw [a.dv_iff c, b.dv_iff c]
  | .star a, u => by
    show (∃ x y, u = x ++ y ∧ (a.dv c).L x ∧ Many a.L y) ↔ Many a.L (c :: u)
    rw [many_cons]
    simp only [a.dv_iff c]
/-- Whether an expression means a text. -/
def Rx.mt : Rx → List UInt8 → Bool
  | r, [] => r.nul
  | r, c :: u => (r.dv c).mt u
theorem Rx.mt_iff (r : Rx) (u : List UInt8) : r.mt u = true ↔ r.L u := by
  induction u generalizing r with
  | nil => exact r.nul_iff
  | cons c u ih =>
    show (r.dv c).mt u = true ↔ _
    rw [ih, Rx.dv_iff]
theorem mt_eq {r : Rx} {u : List UInt8} {b : Bool} (h : b = true ↔ r.L u) : b = r.mt u := by
  rw [Bool.eq_iff_iff, h, Rx.mt_iff]
end Go.Proofs.YtejdfpieblkapaaGreatDoor
