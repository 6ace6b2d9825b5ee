/- What Parse answers. -/
import Derived.Test.YtejdfpieblkapaaM44
namespace Go.Proofs.Ytejdfpieblkapaa
open Go.RowKit Go.Shelf

/-- What Parse answers: a node of what is written, or an error. -/
def PaTo (s : ByteArray) (w : World) (e : Ending) (w' : World) : Prop :=
  Below w.heap.size w w' ∧ ((∃ r nb, parseF s.data.toList = some r ∧ r.size ≤ 400 ∧ e = .returned (.tuple #[ptr nb, .int .i64 0, .int .i64 0]) ∧ NdAt w' r nb) ∨ (parseF s.data.toList = none ∧ ∃ (p c : Int), c ≠ 0 ∧ e = .returned (.tuple #[.pointer none, .int .i64 p, .int .i64 c])))
theorem finF_one (g : Grp) : finF [] g = if g.whole.size ≤ 400 then some g.whole else none := by unfold finF; rw [if_pos rfl]

/-- The parser as it begins. -/
theorem ps_start (w : World) (s : ByteArray) (w1 : World) (hb : Below w.heap.size w w1) (h1 : w1.heap[w.heap.size]? = some (.cells #[.slice none 0 0, .slice none 0 0] 88 (0, 0))) (h2 : w1.heap[w.heap.size + 1]? = some (.cells #[.string s, .int .i64 0, .slice (some ⟨w.heap.size, 0, none⟩) 1 1, .int .i64 0, .bool false] 54 (0, 0))) : PS w w1 (w.heap.size + 1) s 0 (0 : Nat) (some ([], g0)) := by
  refine ⟨w.heap.size, 1, fun i => if i = w.heap.size then 2 else if i = w.heap.size + 1 then 1 else 0, [.slice none 0 0, .slice none 0 0], ⟨h2, ⟨rfl, .inr ⟨w.heap.size, 1, _, rfl, Nat.zero_le _, h1, Nat.le_refl _, by unfold maxLen; omega, rfl, rfl⟩⟩, rfl, fun c v rs a1 a2 _ => ?_, by simp, by simp, fun i hi => ?_, hb⟩, fun i hi => ?_⟩
  · have hc : c = 0 ∨ c = 1 := by
      have := (List.getElem?_eq_some_iff.1 a1).1
      simp at this; omega
    rcases hc with rfl | rfl
    · have e1 : Value.slice none 0 0 = v := by simpa using a1
      have e2 : ([] : List Rx) = rs := by simpa [flatG, g0] using a2
      subst e1; subst e2
      exact RwAt.nil _ _ _
    · have e1 : Value.slice none 0 0 = v := by simpa using a1
      have e2 : ([] : List Rx) = rs := by simpa [flatG, g0] using a2
      subst e1; subst e2
      exact RwAt.nil _ _ _
  · by_cases e1 : i = w.heap.size
    · omega
    · by_cases e2 : i = w.heap.size + 1
      · omega
      · simp [e1, e2] at hi
  · have := lt_of_heap h2
    simp only []
    rw [if_neg (by omega), if_neg (by omega)]

theorem run_mk52 (w : World) : (Instr.makeSlice 52 (.int .i64 1) (.int .i64 1)).run Try.prog w = .ok (.slice (some ⟨w.heap.size, 0, none⟩) 1 1) (w.alloc (.cells #[.slice none 0 0, .slice none 0 0] 88)) := by
  obtain ⟨i, hi, hz, hsz, hby⟩ := info_parts Try.info88
  have h := run_makeSlice (P := Try.prog) w 52 88 i _ Try.underlying52 hi hz .i64 .i64 1 1 (by omega) (by omega) (by rw [hsz]; decide) (by rw [hby]; decide) (by omega)
  have e : madeCells (Value.agg #[.slice none 0 0, .slice none 0 0]).cells (Int.toNat 1 * 2) = #[.slice none 0 0, .slice none 0 0] := by kernel_rfl
  rw [h, hsz, e]; rfl
set_option maxRecDepth 100000 in
set_option maxHeartbeats 4000000 in
theorem parse_any (s : ByteArray) (w : World) (hs : s.size ≤ 1000000) : Calls Try.prog 8 #[.string s] w (PaTo s w) := by
  have hmk := run_mk52 w
  have hb2 : Below w.heap.size w ((w.alloc (.cells #[.slice none 0 0, .slice none 0 0] 88)).alloc (.cells #[.string s, .int .i64 0, .slice (some ⟨w.heap.size, 0, none⟩) 1 1, .int .i64 0, .bool false] 54)) := ((Below.refl _ w).alloc (Nat.le_refl _) _).alloc (by simp) _
  have hps := ps_start w s _ hb2 ((Below.heap_alloc _ _ _ (by simp)).trans (heap_alloc_new w _)) (heap_alloc2_new w _ _)
  have HR := Lib.hid (pread_any w _ (w.heap.size + 1) s hps hs)
  clear hb2 hps
  go_enter Try.func8, Try.ntmps8
  go_wp2_with fail
  refine HR.out.mono ?_
  rintro e w1 hpost
  rcases hpost with ⟨g, G, cap, i, d, rfl, hpi, hfin, hok⟩ | ⟨i, d, rfl, hp, hnone⟩ | ⟨rfl, hnone, i, d, st, hp⟩
  · obtain ⟨_, _, _, _, c4, _⟩ := ps_cells hpi.ps
    have HL := Lib.hid (last_ps w1 (w.heap.size + 1) G [g].length 0 cap s i d hpi.ps rfl (by omega))
    have HPI := Lib.hid hpi; have HOK := Lib.hid hok; have HFI := Lib.hid hfin
    clear hpi hok hfin
    go_wp2_with fail
    refine HL.out.mono ?_
    rintro e w2 ⟨rfl, hb2⟩
    have HW := Lib.hid (whole_any w w2 (w.heap.size + 1) G cap s i d [] g (HPI.out.below hb2) HOK.out)
    clear hb2
    go_wp2_with fail
    refine HW.out.mono ?_
    rintro e w3 ⟨nb, rfl, ρ, vs, X1, X2, X3⟩
    obtain ⟨sz, _, hbl⟩ := nd_size X3.nd
    have HB := Lib.hid X1.bel; have HN := Lib.hid X3.nd
    have hfin := HFI.out
    rw [finF_one] at hfin
    obtain ⟨z, hz⟩ : ∃ z, z = g.whole.size := ⟨_, rfl⟩
    rw [← hz] at sz hfin
    clear X1 X2 X3
    by_cases h4 : z ≤ 400
    · have h4i : ¬ (400 : Int) < (z : Int) := by omega
      rw [if_pos h4] at hfin
      have HFn := Lib.hid hfin
      have HZ := Lib.hid (show g.whole.size ≤ 400 by omega)
      clear hfin hz
      go_wp2_with fail
      refine bodyPost_ret (results_tmp3 rfl _ _ _) rfl ?_
      exact ⟨HB.out, .inl ⟨_, nb, HFn.out, HZ.out, rfl, HN.out⟩⟩
    · have h4i : (400 : Int) < (z : Int) := by omega
      rw [if_neg h4] at hfin
      have HFn := Lib.hid hfin
      clear hfin hz
      go_wp2_with fail
      refine bodyPost_ret (results_tmp3 rfl _ _ _) rfl ?_
      exact ⟨HB.out, .inr ⟨HFn.out, 0, 3, by omega, rfl⟩⟩
  · obtain ⟨_, _, _, _, c4, _⟩ := ps_cells hp.1
    have HB := Lib.hid hp.bel; have HN := Lib.hid hnone
    clear hp hnone
    go_wp2_with fail
    refine bodyPost_ret (results_tmp3 rfl _ _ _) rfl ?_
    exact ⟨HB.out, .inr ⟨HN.out, 0, 3, by omega, rfl⟩⟩
  · obtain ⟨_, c1, _⟩ := hp.cells
    have HB := Lib.hid hp.bel; have HN := Lib.hid hnone
    clear hp hnone
    go_wp2_with fail
    go_quiet (fail)
    go_wp2_with fail
    refine bodyPost_ret (results_tmp3 rfl _ _ _) rfl ?_
    exact ⟨HB.out.trans (below_drewN _ _ _), .inr ⟨HN.out, i, 4, by omega, rfl⟩⟩
end Go.Proofs.Ytejdfpieblkapaa
