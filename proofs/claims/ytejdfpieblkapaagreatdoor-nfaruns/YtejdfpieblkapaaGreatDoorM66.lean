/- Carried from another seat. -/
import Derived.Test.YtejdfpieblkapaaGreatDoorM65
import Derived.Deep.DeepCutAuto
import Derived.Deep.CutBlock
import Derived.OwnWalk
namespace Go.Proofs.YtejdfpieblkapaaGreatDoor
open Go.RowKit Go.Shelf

theorem OrI.below {w : World} {X : Nat} {s : ByteArray} {d i : Nat} {great0 : Bool} {va vl : Value} {wr w2 : World} {d' : Int} {j ia : Nat} {bad gr : Bool} {ways row : List Rx} (H : OrI w X s d i great0 va vl wr d' j ia bad gr ways row) (hX : X < w.heap.size) (hb : Below wr.heap.size wr w2) : OrI w X s d i great0 va vl w2 d' j ia bad gr ways row := by
  obtain ⟨ca, cl, Q, hm⟩ := H.m
  exact ⟨⟨ca, cl, Q, hm.below hX hb⟩, H.js, H.ia1, H.ia2, H.gr, H.sw, H.lw, H.lr, H.ok, H.bad⟩

set_option maxRecDepth 100000 in
set_option maxHeartbeats 2000000 in
theorem or_r (s : ByteArray) (i : Nat) (hs : s.size ≤ 300) (hfac : ∀ j, i ≤ j → j < s.size → FacOk s j) : OrOk s i := by
  intro w X great d h hi hd
  have hXl := lt_of_heap h
  have hlenL : s.data.toList.length = s.size := by rw [← Lib.size_eq]
  have hb : Below w.heap.size w (w.alloc (.cells Tryz.zeroCells36 36)) := (Below.refl _ w).alloc (Nat.le_refl _) _
  have h0 : OrI w X s d i great (.slice none 0 0) (.slice none 0 0) (w.alloc (.cells Tryz.zeroCells36 36)) d i i false great [] [] :=
    ⟨⟨[], [], fun _ => False, ⟨h.below hb, alloc_res w, Kb.of_below _ hb, (fun _ h => h.elim), World.ownsRow_nil _ _ _ _, World.ownsRow_nil _ _ _ _, rfl, rfl, (fun _ _ h => h), (fun _ _ h => h), (fun g h => by simp [Value.ownBlock] at h)⟩⟩, hi, Nat.le_refl _, hi, (fun h => .inl h), by simp [szs], by simp, by simp, (fun _ => ⟨OrS.start _ _ _, rfl, Nat.le_refl _, by simp [szs], by simp⟩), (fun h => by cases h)⟩
  have H0 := Lib.hid h0; have HLL := Lib.hid hlenL; have HFAC := Lib.hid hfac
  clear h0 hb h hlenL hfac
  go_enter Tryz.func76, Tryz.ntmps76
  go_wp2_with fail
  generalize w.alloc (.cells Tryz.zeroCells36 36) = w1 at H0 ⊢
  go_loopg [3] (s.size + 1) (fun k va wr => ∃ ia gr ways, OrI w X s d i great va (.slice none 0 0) wr d ia ia false gr ways [] ∧ s.size + 1 ≤ k + ia)
  case atStart => exact ⟨i, great, [], H0.out, by omega⟩
  case round =>
    clear H0
    obtain ⟨va, hva⟩ : ∃ va, va = u3 := ⟨_, rfl⟩
    subst hva
    obtain ⟨ia, gr, ways, hI, hk⟩ := hrel
    obtain ⟨kO, hkO⟩ : ∃ kO, kO = gk - 1 := ⟨_, rfl⟩
    have hia := hI.ia2
    have hkO1 : kO < gk := by omega
    have hkO2 : s.size + 1 ≤ kO + 1 + ia := by omega
    have HI := Lib.hid hI
    clear hI hk hkO
    go_wp2_with fail
    go_loopg [4] (s.size + 1) (fun k2 vl wr2 => ∃ d' j bad gr2 row, OrI w X s d i great va vl wr2 d' j ia bad gr2 ways row ∧ (bad = false → s.size + 1 ≤ k2 + j))
    case atStart => exact ⟨d, ia, false, gr, [], HI.out, fun _ => by omega⟩
    case round =>
      clear HI
      obtain ⟨d', j, bad, gr2, row, hJ, hk2⟩ := hrel
      obtain ⟨vl, hvl⟩ : ∃ vl, vl = u4 := ⟨_, rfl⟩
      subst hvl
      have hjs := hJ.js
      have HTX := Lib.hid (hJ.m.elim fun _ h => h.elim fun _ h => h.elim fun _ h => h.tx)
      have HJ := Lib.hid hJ; have HK2 := Lib.hid hk2
      clear hJ hk2
      go_upto_region 3 with fail
      go_cut [32] (fun v wx => ∃ c, v = .bool c ∧ Hid (c = decide (bad = false ∧ j < s.size ∧ nx s.data.toList j ≠ 124 ∧ nx s.data.toList j ≠ 41)) ∧ Hid (Below wr.heap.size wr wx))
      case first =>
        cases bad
        · have HSE1 := Lib.hid (fun w' (h : TxB w' X s j d' false gr2) => sees_any w' X s j 124 d' false gr2 h hjs (by omega) (by omega))
          have HSE2 := Lib.hid (fun w' (h : TxB w' X s j d' false gr2) => sees_any w' X s j 41 d' false gr2 h hjs (by omega) (by omega))
          rcases Nat.lt_or_ge j s.size with hlt | hge
          · have hji : (j : Int) < s.size := by omega
            by_cases h124 : nx s.data.toList j = 124
            · skip
              refine wp_region_held_drew (S := fun w' => TxB w' X s j d' false gr2 ∧ Below wr.heap.size wr w') (by kernel_rfl) ⟨HTX.out.below ((Below.refl _ wr).drew), (Below.refl _ wr).drew⟩ ?_
              intro hS
              change wpAnyH _ _ _ _ _ 27 (Array.replicate 27 false) _ (World.drew _)
              generalize wr.drew = wz at hS ⊢

              refine wpAnyH_take (i := 0) (v := ?_) rfl (by kernel_rfl) (by kernel_rfl) (by kernel_rfl) (fun _ _ _ h => h) (Or.inl ⟨by rfl, ?_⟩) hS ?_
              rotate_left 1
              · intro wq hq
                obtain ⟨q0, q1, q2, q3, q4, _⟩ := tx_cells hq.1
                go_simp; (try with_reducible rfl)
              try simp only [Act.put, List.getElem_toArray, List.getElem_cons_zero, List.setIfInBounds_toArray, List.set_cons_zero, List.set_cons_succ]

              refine wpAnyH_take (i := 1) (v := ?_) rfl (by kernel_rfl) (by kernel_rfl) (by kernel_rfl) (fun _ _ _ h => h) (Or.inl ⟨by rfl, ?_⟩) hS ?_
              rotate_left 1
              · intro wq hq
                obtain ⟨q0, q1, q2, q3, q4, _⟩ := tx_cells hq.1
                go_simp; (try with_reducible rfl)
              try simp only [Act.put, List.getElem_toArray, List.getElem_cons_zero, List.getElem_cons_succ, List.setIfInBounds_toArray, List.set_cons_zero, List.set_cons_succ]

              refine wpAnyH_take (i := 2) (v := ?_) rfl (by kernel_rfl) (by kernel_rfl) (by kernel_rfl) (fun _ _ _ h => h) (Or.inl ⟨by rfl, ?_⟩) hS ?_
              rotate_left 1
              · intro wq hq
                obtain ⟨q0, q1, q2, q3, q4, _⟩ := tx_cells hq.1
                go_simp; (try with_reducible rfl)
              try simp only [Act.put, List.getElem_toArray, List.getElem_cons_zero, List.getElem_cons_succ, List.setIfInBounds_toArray, List.set_cons_zero, List.set_cons_succ]

              refine wpAnyH_take (i := 3) (v := ?_) rfl (by kernel_rfl) (by kernel_rfl) (by kernel_rfl) (fun _ _ _ h => h) (Or.inl ⟨by rfl, ?_⟩) hS ?_
              rotate_left 1
              · intro wq hq
                obtain ⟨q0, q1, q2, q3, q4, _⟩ := tx_cells hq.1
                go_simp; (try with_reducible rfl)
              try simp only [Act.put, List.getElem_toArray, List.getElem_cons_zero, List.getElem_cons_succ, List.setIfInBounds_toArray, List.set_cons_zero, List.set_cons_succ]

              refine wpAnyH_take (i := 4) (v := ?_) rfl (by kernel_rfl) (by kernel_rfl) (by kernel_rfl) (fun _ _ _ h => h) (Or.inl ⟨by rfl, ?_⟩) hS ?_
              rotate_left 1
              · intro wq hq
                obtain ⟨q0, q1, q2, q3, q4, _⟩ := tx_cells hq.1
                go_simp; (try with_reducible rfl)
              try simp only [Act.put, List.getElem_toArray, List.getElem_cons_zero, List.getElem_cons_succ, List.setIfInBounds_toArray, List.set_cons_zero, List.set_cons_succ]

              refine wpAnyH_take (i := 5) (v := ?_) rfl (by kernel_rfl) (by kernel_rfl) (by kernel_rfl) (fun _ _ _ h => h) (Or.inl ⟨by rfl, ?_⟩) hS ?_
              rotate_left 1
              · intro wq hq
                obtain ⟨q0, q1, q2, q3, q4, _⟩ := tx_cells hq.1
                go_simp; (try with_reducible rfl)
              try simp only [Act.put, List.getElem_toArray, List.getElem_cons_zero, List.getElem_cons_succ, List.setIfInBounds_toArray, List.set_cons_zero, List.set_cons_succ]

              refine wpAnyH_take (i := 6) (v := ?_) rfl (by kernel_rfl) (by kernel_rfl) (by kernel_rfl) (fun _ _ _ h => h) (Or.inl ⟨by rfl, ?_⟩) hS ?_
              rotate_left 1
              · intro wq hq
                obtain ⟨q0, q1, q2, q3, q4, _⟩ := tx_cells hq.1
                go_simp; (try with_reducible rfl)
              try simp only [Act.put, List.getElem_toArray, List.getElem_cons_zero, List.getElem_cons_succ, List.setIfInBounds_toArray, List.set_cons_zero, List.set_cons_succ]

              refine wpAnyH_take (i := 7) (v := ?_) rfl (by kernel_rfl) (by kernel_rfl) (by kernel_rfl) (fun _ _ _ h => h) (Or.inl ⟨by rfl, ?_⟩) hS ?_
              rotate_left 1
              · intro wq hq
                obtain ⟨q0, q1, q2, q3, q4, _⟩ := tx_cells hq.1
                go_simp; (try with_reducible rfl)
              try simp only [Act.put, List.getElem_toArray, List.getElem_cons_zero, List.getElem_cons_succ, List.setIfInBounds_toArray, List.set_cons_zero, List.set_cons_succ]

              refine wpAnyH_take (i := 8) (v := ?_) rfl (by kernel_rfl) (by kernel_rfl) (by kernel_rfl) (fun _ _ _ h => h) (Or.inl ⟨by rfl, ?_⟩) hS ?_
              rotate_left 1
              · intro wq hq
                obtain ⟨q0, q1, q2, q3, q4, _⟩ := tx_cells hq.1
                go_simp; (try with_reducible rfl)
              try simp only [Act.put, List.getElem_toArray, List.getElem_cons_zero, List.getElem_cons_succ, List.setIfInBounds_toArray, List.set_cons_zero, List.set_cons_succ]

              refine wpAnyH_take (i := 9) (v := ?_) rfl (by kernel_rfl) (by kernel_rfl) (by kernel_rfl) (fun _ _ _ h => h) (Or.inl ⟨by rfl, ?_⟩) hS ?_
              rotate_left 1
              · intro wq hq
                obtain ⟨q0, q1, q2, q3, q4, _⟩ := tx_cells hq.1
                go_simp; (try with_reducible rfl)
              try simp only [Act.put, List.getElem_toArray, List.getElem_cons_zero, List.getElem_cons_succ, List.setIfInBounds_toArray, List.set_cons_zero, List.set_cons_succ]

              refine wpAnyH_take (i := 10) (v := ?_) rfl (by kernel_rfl) (by kernel_rfl) (by kernel_rfl) (fun _ _ _ h => h) (Or.inl ⟨by rfl, ?_⟩) hS ?_
              rotate_left 1
              · intro wq hq
                obtain ⟨q0, q1, q2, q3, q4, _⟩ := tx_cells hq.1
                go_simp; (try with_reducible rfl)
              try simp only [Act.put, List.getElem_toArray, List.getElem_cons_zero, List.getElem_cons_succ, List.setIfInBounds_toArray, List.set_cons_zero, List.set_cons_succ]

              refine wpAnyH_take (i := 11) (v := ?_) rfl (by kernel_rfl) (by kernel_rfl) (by kernel_rfl) (fun _ _ _ h => h) (Or.inl ⟨by rfl, ?_⟩) hS ?_
              rotate_left 1
              · intro wq hq
                obtain ⟨q0, q1, q2, q3, q4, _⟩ := tx_cells hq.1
                go_simp; (try with_reducible rfl)
              try simp only [Act.put, List.getElem_toArray, List.getElem_cons_zero, List.getElem_cons_succ, List.setIfInBounds_toArray, List.set_cons_zero, List.set_cons_succ]

              refine wpAnyH_take (i := 12) (v := ?_) rfl (by kernel_rfl) (by kernel_rfl) (by kernel_rfl) (fun _ _ _ h => h) (Or.inl ⟨by rfl, ?_⟩) hS ?_
              rotate_left 1
              · intro wq hq
                obtain ⟨q0, q1, q2, q3, q4, _⟩ := tx_cells hq.1
                go_simp; (try with_reducible rfl)
              try simp only [Act.put, List.getElem_toArray, List.getElem_cons_zero, List.getElem_cons_succ, List.setIfInBounds_toArray, List.set_cons_zero, List.set_cons_succ]

              refine wpAnyH_take (i := 13) (v := ?_) rfl (by kernel_rfl) (by kernel_rfl) (by kernel_rfl) (fun _ _ _ h => h) (Or.inl ⟨by rfl, ?_⟩) hS ?_
              rotate_left 1
              · intro wq hq
                obtain ⟨q0, q1, q2, q3, q4, _⟩ := tx_cells hq.1
                go_simp; (try with_reducible rfl)
              try simp only [Act.put, List.getElem_toArray, List.getElem_cons_zero, List.getElem_cons_succ, List.setIfInBounds_toArray, List.set_cons_zero, List.set_cons_succ]

              refine wpAnyH_take (i := 14) (v := ?_) rfl (by kernel_rfl) (by kernel_rfl) (by kernel_rfl) (fun _ _ _ h => h) (Or.inl ⟨by rfl, ?_⟩) hS ?_
              rotate_left 1
              · intro wq hq
                obtain ⟨q0, q1, q2, q3, q4, _⟩ := tx_cells hq.1
                go_simp; (try with_reducible rfl)
              try simp only [Act.put, List.getElem_toArray, List.getElem_cons_zero, List.getElem_cons_succ, List.setIfInBounds_toArray, List.set_cons_zero, List.set_cons_succ]

              refine wpAnyH_take (i := 15) (v := ?_) rfl (by kernel_rfl) (by kernel_rfl) (by kernel_rfl) (fun _ _ _ h => h) (Or.inl ⟨by rfl, ?_⟩) hS ?_
              rotate_left 1
              · intro wq hq
                obtain ⟨q0, q1, q2, q3, q4, _⟩ := tx_cells hq.1
                go_simp; (try with_reducible rfl)
              try simp only [Act.put, List.getElem_toArray, List.getElem_cons_zero, List.getElem_cons_succ, List.setIfInBounds_toArray, List.set_cons_zero, List.set_cons_succ]

              refine wpAnyH_take (i := 16) (v := ?_) rfl (by kernel_rfl) (by kernel_rfl) (by kernel_rfl) (fun _ _ _ h => h) (Or.inl ⟨by rfl, ?_⟩) hS ?_
              rotate_left 1
              · intro wq hq
                obtain ⟨q0, q1, q2, q3, q4, _⟩ := tx_cells hq.1
                go_simp; (try with_reducible rfl)
              try simp only [Act.put, List.getElem_toArray, List.getElem_cons_zero, List.getElem_cons_succ, List.setIfInBounds_toArray, List.set_cons_zero, List.set_cons_succ]

              refine wpAnyH_take (i := 17) (v := ?_) rfl (by kernel_rfl) (by kernel_rfl) (by kernel_rfl) (fun _ _ _ h => h) (Or.inl ⟨by rfl, ?_⟩) hS ?_
              rotate_left 1
              · intro wq hq
                obtain ⟨q0, q1, q2, q3, q4, _⟩ := tx_cells hq.1
                go_simp; (try with_reducible rfl)
              try simp only [Act.put, List.getElem_toArray, List.getElem_cons_zero, List.getElem_cons_succ, List.setIfInBounds_toArray, List.set_cons_zero, List.set_cons_succ]

              refine wpAnyH_take (i := 18) (v := ?_) rfl (by kernel_rfl) (by kernel_rfl) (by kernel_rfl) (fun _ _ _ h => h) (Or.inl ⟨by rfl, ?_⟩) hS ?_
              rotate_left 1
              · intro wq hq
                obtain ⟨q0, q1, q2, q3, q4, _⟩ := tx_cells hq.1
                go_simp; (try with_reducible rfl)
              try simp only [Act.put, List.getElem_toArray, List.getElem_cons_zero, List.getElem_cons_succ, List.setIfInBounds_toArray, List.set_cons_zero, List.set_cons_succ]

              refine wpAnyH_ready (rs := [19]) (by kernel_rfl) (by simp) ?_
              refine AllReadyH.cons rfl (fun K' hK => ?_) AllReadyH.nil
              go_simp
              go_at_call 117
              refine (HSE1.out _ hS.1).mono ?_
              rintro e wy ⟨rfl, hty, hby⟩
              refine hK.out _ _ ⟨hty, below_tr hS.2 hby hS.2.size⟩ (fun hS => ?_)
              clear hK K' hty hby
              rw [decide_eq_true h124]
              try simp only [Act.put, List.getElem_toArray, List.getElem_cons_zero, List.getElem_cons_succ, List.setIfInBounds_toArray, List.set_cons_zero, List.set_cons_succ]

              refine wpAnyH_take (i := 20) (v := ?_) rfl (by kernel_rfl) (by kernel_rfl) (by kernel_rfl) (fun _ _ _ h => h) (Or.inl ⟨by rfl, ?_⟩) hS ?_
              rotate_left 1
              · intro wq hq
                obtain ⟨q0, q1, q2, q3, q4, _⟩ := tx_cells hq.1
                go_simp; (try with_reducible rfl)
              try simp only [Act.put, List.getElem_toArray, List.getElem_cons_zero, List.getElem_cons_succ, List.setIfInBounds_toArray, List.set_cons_zero, List.set_cons_succ]

              refine wpAnyH_take (i := 21) (v := ?_) rfl (by kernel_rfl) (by kernel_rfl) (by kernel_rfl) (fun _ _ _ h => h) (Or.inl ⟨by rfl, ?_⟩) hS ?_
              rotate_left 1
              · intro wq hq
                obtain ⟨q0, q1, q2, q3, q4, _⟩ := tx_cells hq.1
                go_simp; (try with_reducible rfl)
              try simp only [Act.put, List.getElem_toArray, List.getElem_cons_zero, List.getElem_cons_succ, List.setIfInBounds_toArray, List.set_cons_zero, List.set_cons_succ]

              refine wpAnyH_take (i := 22) (v := ?_) rfl (by kernel_rfl) (by kernel_rfl) (by kernel_rfl) (fun _ _ _ h => h) (Or.inl ⟨by rfl, ?_⟩) hS ?_
              rotate_left 1
              · intro wq hq
                obtain ⟨q0, q1, q2, q3, q4, _⟩ := tx_cells hq.1
                go_simp; (try with_reducible rfl)
              try simp only [Act.put, List.getElem_toArray, List.getElem_cons_zero, List.getElem_cons_succ, List.setIfInBounds_toArray, List.set_cons_zero, List.set_cons_succ]

              refine wpAnyH_take (i := 23) (v := undef) rfl (by kernel_rfl) (by kernel_rfl) (by kernel_rfl) (fun _ _ _ h => h) (Or.inr ⟨by rfl, rfl⟩) hS ?_
              try simp only [Act.put, List.getElem_toArray, List.getElem_cons_zero, List.getElem_cons_succ, List.setIfInBounds_toArray, List.set_cons_zero, List.set_cons_succ]

              refine wpAnyH_ready (rs := [24]) (by kernel_rfl) (by simp) ?_
              refine AllReadyH.cons rfl (fun K' hK => ?_) AllReadyH.nil
              go_simp
              refine hK.out _ _ hS (fun hS => ?_)
              clear hK K'
              try simp only [Act.put, List.getElem_toArray, List.getElem_cons_zero, List.getElem_cons_succ, List.setIfInBounds_toArray, List.set_cons_zero, List.set_cons_succ]

              refine wpAnyH_take (i := 25) (v := undef) rfl (by kernel_rfl) (by kernel_rfl) (by kernel_rfl) (fun _ _ _ h => h) (Or.inr ⟨by rfl, rfl⟩) hS ?_
              try simp only [Act.put, List.getElem_toArray, List.getElem_cons_zero, List.getElem_cons_succ, List.setIfInBounds_toArray, List.set_cons_zero, List.set_cons_succ]

              refine wpAnyH_take (i := 26) (v := ?_) rfl (by kernel_rfl) (by kernel_rfl) (by kernel_rfl) (fun _ _ _ h => h) (Or.inl ⟨by rfl, ?_⟩) hS ?_
              rotate_left 1
              · intro wq hq
                obtain ⟨q0, q1, q2, q3, q4, _⟩ := tx_cells hq.1
                go_simp; (try with_reducible rfl)
              try simp only [Act.put, List.getElem_toArray, List.getElem_cons_zero, List.getElem_cons_succ, List.setIfInBounds_toArray, List.set_cons_zero, List.set_cons_succ]

              refine wpAnyH_done (by kernel_rfl) ?_ _
              go_wp2_with fail
              go_meet
              exact ⟨false, rfl, (by show false = decide _; rw [decide_eq_false]; intro h; exact h.2.2.1 h124), hS.2⟩

            · by_cases h41 : nx s.data.toList j = 41
              · skip
                refine wp_region_held_drew (S := fun w' => TxB w' X s j d' false gr2 ∧ Below wr.heap.size wr w') (by kernel_rfl) ⟨HTX.out.below ((Below.refl _ wr).drew), (Below.refl _ wr).drew⟩ ?_
                intro hS
                change wpAnyH _ _ _ _ _ 27 (Array.replicate 27 false) _ (World.drew _)
                generalize wr.drew = wz at hS ⊢

                refine wpAnyH_take (i := 0) (v := ?_) rfl (by kernel_rfl) (by kernel_rfl) (by kernel_rfl) (fun _ _ _ h => h) (Or.inl ⟨by rfl, ?_⟩) hS ?_
                rotate_left 1
                · intro wq hq
                  obtain ⟨q0, q1, q2, q3, q4, _⟩ := tx_cells hq.1
                  go_simp; (try with_reducible rfl)
                try simp only [Act.put, List.getElem_toArray, List.getElem_cons_zero, List.setIfInBounds_toArray, List.set_cons_zero, List.set_cons_succ]

                refine wpAnyH_take (i := 1) (v := ?_) rfl (by kernel_rfl) (by kernel_rfl) (by kernel_rfl) (fun _ _ _ h => h) (Or.inl ⟨by rfl, ?_⟩) hS ?_
                rotate_left 1
                · intro wq hq
                  obtain ⟨q0, q1, q2, q3, q4, _⟩ := tx_cells hq.1
                  go_simp; (try with_reducible rfl)
                try simp only [Act.put, List.getElem_toArray, List.getElem_cons_zero, List.getElem_cons_succ, List.setIfInBounds_toArray, List.set_cons_zero, List.set_cons_succ]

                refine wpAnyH_take (i := 2) (v := ?_) rfl (by kernel_rfl) (by kernel_rfl) (by kernel_rfl) (fun _ _ _ h => h) (Or.inl ⟨by rfl, ?_⟩) hS ?_
                rotate_left 1
                · intro wq hq
                  obtain ⟨q0, q1, q2, q3, q4, _⟩ := tx_cells hq.1
                  go_simp; (try with_reducible rfl)
                try simp only [Act.put, List.getElem_toArray, List.getElem_cons_zero, List.getElem_cons_succ, List.setIfInBounds_toArray, List.set_cons_zero, List.set_cons_succ]

                refine wpAnyH_take (i := 3) (v := ?_) rfl (by kernel_rfl) (by kernel_rfl) (by kernel_rfl) (fun _ _ _ h => h) (Or.inl ⟨by rfl, ?_⟩) hS ?_
                rotate_left 1
                · intro wq hq
                  obtain ⟨q0, q1, q2, q3, q4, _⟩ := tx_cells hq.1
                  go_simp; (try with_reducible rfl)
                try simp only [Act.put, List.getElem_toArray, List.getElem_cons_zero, List.getElem_cons_succ, List.setIfInBounds_toArray, List.set_cons_zero, List.set_cons_succ]

                refine wpAnyH_take (i := 4) (v := ?_) rfl (by kernel_rfl) (by kernel_rfl) (by kernel_rfl) (fun _ _ _ h => h) (Or.inl ⟨by rfl, ?_⟩) hS ?_
                rotate_left 1
                · intro wq hq
                  obtain ⟨q0, q1, q2, q3, q4, _⟩ := tx_cells hq.1
                  go_simp; (try with_reducible rfl)
                try simp only [Act.put, List.getElem_toArray, List.getElem_cons_zero, List.getElem_cons_succ, List.setIfInBounds_toArray, List.set_cons_zero, List.set_cons_succ]

                refine wpAnyH_take (i := 5) (v := ?_) rfl (by kernel_rfl) (by kernel_rfl) (by kernel_rfl) (fun _ _ _ h => h) (Or.inl ⟨by rfl, ?_⟩) hS ?_
                rotate_left 1
                · intro wq hq
                  obtain ⟨q0, q1, q2, q3, q4, _⟩ := tx_cells hq.1
                  go_simp; (try with_reducible rfl)
                try simp only [Act.put, List.getElem_toArray, List.getElem_cons_zero, List.getElem_cons_succ, List.setIfInBounds_toArray, List.set_cons_zero, List.set_cons_succ]

                refine wpAnyH_take (i := 6) (v := ?_) rfl (by kernel_rfl) (by kernel_rfl) (by kernel_rfl) (fun _ _ _ h => h) (Or.inl ⟨by rfl, ?_⟩) hS ?_
                rotate_left 1
                · intro wq hq
                  obtain ⟨q0, q1, q2, q3, q4, _⟩ := tx_cells hq.1
                  go_simp; (try with_reducible rfl)
                try simp only [Act.put, List.getElem_toArray, List.getElem_cons_zero, List.getElem_cons_succ, List.setIfInBounds_toArray, List.set_cons_zero, List.set_cons_succ]

                refine wpAnyH_take (i := 7) (v := ?_) rfl (by kernel_rfl) (by kernel_rfl) (by kernel_rfl) (fun _ _ _ h => h) (Or.inl ⟨by rfl, ?_⟩) hS ?_
                rotate_left 1
                · intro wq hq
                  obtain ⟨q0, q1, q2, q3, q4, _⟩ := tx_cells hq.1
                  go_simp; (try with_reducible rfl)
                try simp only [Act.put, List.getElem_toArray, List.getElem_cons_zero, List.getElem_cons_succ, List.setIfInBounds_toArray, List.set_cons_zero, List.set_cons_succ]

                refine wpAnyH_take (i := 8) (v := ?_) rfl (by kernel_rfl) (by kernel_rfl) (by kernel_rfl) (fun _ _ _ h => h) (Or.inl ⟨by rfl, ?_⟩) hS ?_
                rotate_left 1
                · intro wq hq
                  obtain ⟨q0, q1, q2, q3, q4, _⟩ := tx_cells hq.1
                  go_simp; (try with_reducible rfl)
                try simp only [Act.put, List.getElem_toArray, List.getElem_cons_zero, List.getElem_cons_succ, List.setIfInBounds_toArray, List.set_cons_zero, List.set_cons_succ]

                refine wpAnyH_take (i := 9) (v := ?_) rfl (by kernel_rfl) (by kernel_rfl) (by kernel_rfl) (fun _ _ _ h => h) (Or.inl ⟨by rfl, ?_⟩) hS ?_
                rotate_left 1
                · intro wq hq
                  obtain ⟨q0, q1, q2, q3, q4, _⟩ := tx_cells hq.1
                  go_simp; (try with_reducible rfl)
                try simp only [Act.put, List.getElem_toArray, List.getElem_cons_zero, List.getElem_cons_succ, List.setIfInBounds_toArray, List.set_cons_zero, List.set_cons_succ]

                refine wpAnyH_take (i := 10) (v := ?_) rfl (by kernel_rfl) (by kernel_rfl) (by kernel_rfl) (fun _ _ _ h => h) (Or.inl ⟨by rfl, ?_⟩) hS ?_
                rotate_left 1
                · intro wq hq
                  obtain ⟨q0, q1, q2, q3, q4, _⟩ := tx_cells hq.1
                  go_simp; (try with_reducible rfl)
                try simp only [Act.put, List.getElem_toArray, List.getElem_cons_zero, List.getElem_cons_succ, List.setIfInBounds_toArray, List.set_cons_zero, List.set_cons_succ]

                refine wpAnyH_take (i := 11) (v := ?_) rfl (by kernel_rfl) (by kernel_rfl) (by kernel_rfl) (fun _ _ _ h => h) (Or.inl ⟨by rfl, ?_⟩) hS ?_
                rotate_left 1
                · intro wq hq
                  obtain ⟨q0, q1, q2, q3, q4, _⟩ := tx_cells hq.1
                  go_simp; (try with_reducible rfl)
                try simp only [Act.put, List.getElem_toArray, List.getElem_cons_zero, List.getElem_cons_succ, List.setIfInBounds_toArray, List.set_cons_zero, List.set_cons_succ]

                refine wpAnyH_take (i := 12) (v := ?_) rfl (by kernel_rfl) (by kernel_rfl) (by kernel_rfl) (fun _ _ _ h => h) (Or.inl ⟨by rfl, ?_⟩) hS ?_
                rotate_left 1
                · intro wq hq
                  obtain ⟨q0, q1, q2, q3, q4, _⟩ := tx_cells hq.1
                  go_simp; (try with_reducible rfl)
                try simp only [Act.put, List.getElem_toArray, List.getElem_cons_zero, List.getElem_cons_succ, List.setIfInBounds_toArray, List.set_cons_zero, List.set_cons_succ]

                refine wpAnyH_take (i := 13) (v := ?_) rfl (by kernel_rfl) (by kernel_rfl) (by kernel_rfl) (fun _ _ _ h => h) (Or.inl ⟨by rfl, ?_⟩) hS ?_
                rotate_left 1
                · intro wq hq
                  obtain ⟨q0, q1, q2, q3, q4, _⟩ := tx_cells hq.1
                  go_simp; (try with_reducible rfl)
                try simp only [Act.put, List.getElem_toArray, List.getElem_cons_zero, List.getElem_cons_succ, List.setIfInBounds_toArray, List.set_cons_zero, List.set_cons_succ]

                refine wpAnyH_take (i := 14) (v := ?_) rfl (by kernel_rfl) (by kernel_rfl) (by kernel_rfl) (fun _ _ _ h => h) (Or.inl ⟨by rfl, ?_⟩) hS ?_
                rotate_left 1
                · intro wq hq
                  obtain ⟨q0, q1, q2, q3, q4, _⟩ := tx_cells hq.1
                  go_simp; (try with_reducible rfl)
                try simp only [Act.put, List.getElem_toArray, List.getElem_cons_zero, List.getElem_cons_succ, List.setIfInBounds_toArray, List.set_cons_zero, List.set_cons_succ]

                refine wpAnyH_take (i := 15) (v := ?_) rfl (by kernel_rfl) (by kernel_rfl) (by kernel_rfl) (fun _ _ _ h => h) (Or.inl ⟨by rfl, ?_⟩) hS ?_
                rotate_left 1
                · intro wq hq
                  obtain ⟨q0, q1, q2, q3, q4, _⟩ := tx_cells hq.1
                  go_simp; (try with_reducible rfl)
                try simp only [Act.put, List.getElem_toArray, List.getElem_cons_zero, List.getElem_cons_succ, List.setIfInBounds_toArray, List.set_cons_zero, List.set_cons_succ]

                refine wpAnyH_take (i := 16) (v := ?_) rfl (by kernel_rfl) (by kernel_rfl) (by kernel_rfl) (fun _ _ _ h => h) (Or.inl ⟨by rfl, ?_⟩) hS ?_
                rotate_left 1
                · intro wq hq
                  obtain ⟨q0, q1, q2, q3, q4, _⟩ := tx_cells hq.1
                  go_simp; (try with_reducible rfl)
                try simp only [Act.put, List.getElem_toArray, List.getElem_cons_zero, List.getElem_cons_succ, List.setIfInBounds_toArray, List.set_cons_zero, List.set_cons_succ]

                refine wpAnyH_take (i := 17) (v := ?_) rfl (by kernel_rfl) (by kernel_rfl) (by kernel_rfl) (fun _ _ _ h => h) (Or.inl ⟨by rfl, ?_⟩) hS ?_
                rotate_left 1
                · intro wq hq
                  obtain ⟨q0, q1, q2, q3, q4, _⟩ := tx_cells hq.1
                  go_simp; (try with_reducible rfl)
                try simp only [Act.put, List.getElem_toArray, List.getElem_cons_zero, List.getElem_cons_succ, List.setIfInBounds_toArray, List.set_cons_zero, List.set_cons_succ]

                refine wpAnyH_take (i := 18) (v := ?_) rfl (by kernel_rfl) (by kernel_rfl) (by kernel_rfl) (fun _ _ _ h => h) (Or.inl ⟨by rfl, ?_⟩) hS ?_
                rotate_left 1
                · intro wq hq
                  obtain ⟨q0, q1, q2, q3, q4, _⟩ := tx_cells hq.1
                  go_simp; (try with_reducible rfl)
                try simp only [Act.put, List.getElem_toArray, List.getElem_cons_zero, List.getElem_cons_succ, List.setIfInBounds_toArray, List.set_cons_zero, List.set_cons_succ]

                refine wpAnyH_ready (rs := [19]) (by kernel_rfl) (by simp) ?_
                refine AllReadyH.cons rfl (fun K' hK => ?_) AllReadyH.nil
                go_simp
                go_at_call 117
                refine (HSE1.out _ hS.1).mono ?_
                rintro e wy ⟨rfl, hty, hby⟩
                refine hK.out _ _ ⟨hty, below_tr hS.2 hby hS.2.size⟩ (fun hS => ?_)
                clear hK K' hty hby
                rw [decide_eq_false h124]
                try simp only [Act.put, List.getElem_toArray, List.getElem_cons_zero, List.getElem_cons_succ, List.setIfInBounds_toArray, List.set_cons_zero, List.set_cons_succ]

                refine wpAnyH_take (i := 20) (v := ?_) rfl (by kernel_rfl) (by kernel_rfl) (by kernel_rfl) (fun _ _ _ h => h) (Or.inl ⟨by rfl, ?_⟩) hS ?_
                rotate_left 1
                · intro wq hq
                  obtain ⟨q0, q1, q2, q3, q4, _⟩ := tx_cells hq.1
                  go_simp; (try with_reducible rfl)
                try simp only [Act.put, List.getElem_toArray, List.getElem_cons_zero, List.getElem_cons_succ, List.setIfInBounds_toArray, List.set_cons_zero, List.set_cons_succ]

                refine wpAnyH_take (i := 21) (v := ?_) rfl (by kernel_rfl) (by kernel_rfl) (by kernel_rfl) (fun _ _ _ h => h) (Or.inl ⟨by rfl, ?_⟩) hS ?_
                rotate_left 1
                · intro wq hq
                  obtain ⟨q0, q1, q2, q3, q4, _⟩ := tx_cells hq.1
                  go_simp; (try with_reducible rfl)
                try simp only [Act.put, List.getElem_toArray, List.getElem_cons_zero, List.getElem_cons_succ, List.setIfInBounds_toArray, List.set_cons_zero, List.set_cons_succ]

                refine wpAnyH_take (i := 22) (v := ?_) rfl (by kernel_rfl) (by kernel_rfl) (by kernel_rfl) (fun _ _ _ h => h) (Or.inl ⟨by rfl, ?_⟩) hS ?_
                rotate_left 1
                · intro wq hq
                  obtain ⟨q0, q1, q2, q3, q4, _⟩ := tx_cells hq.1
                  go_simp; (try with_reducible rfl)
                try simp only [Act.put, List.getElem_toArray, List.getElem_cons_zero, List.getElem_cons_succ, List.setIfInBounds_toArray, List.set_cons_zero, List.set_cons_succ]

                refine wpAnyH_take (i := 23) (v := ?_) rfl (by kernel_rfl) (by kernel_rfl) (by kernel_rfl) (fun _ _ _ h => h) (Or.inl ⟨by rfl, ?_⟩) hS ?_
                rotate_left 1
                · intro wq hq
                  obtain ⟨q0, q1, q2, q3, q4, _⟩ := tx_cells hq.1
                  go_simp; (try with_reducible rfl)
                try simp only [Act.put, List.getElem_toArray, List.getElem_cons_zero, List.getElem_cons_succ, List.setIfInBounds_toArray, List.set_cons_zero, List.set_cons_succ]

                refine wpAnyH_ready (rs := [24]) (by kernel_rfl) (by simp) ?_
                refine AllReadyH.cons rfl (fun K' hK => ?_) AllReadyH.nil
                go_simp
                go_at_call 117
                refine (HSE2.out _ hS.1).mono ?_
                rintro e wy ⟨rfl, hty, hby⟩
                refine hK.out _ _ ⟨hty, below_tr hS.2 hby hS.2.size⟩ (fun hS => ?_)
                clear hK K' hty hby
                rw [decide_eq_true h41]
                try simp only [Act.put, List.getElem_toArray, List.getElem_cons_zero, List.getElem_cons_succ, List.setIfInBounds_toArray, List.set_cons_zero, List.set_cons_succ]

                refine wpAnyH_take (i := 25) (v := ?_) rfl (by kernel_rfl) (by kernel_rfl) (by kernel_rfl) (fun _ _ _ h => h) (Or.inl ⟨by rfl, ?_⟩) hS ?_
                rotate_left 1
                · intro wq hq
                  obtain ⟨q0, q1, q2, q3, q4, _⟩ := tx_cells hq.1
                  go_simp; (try with_reducible rfl)
                try simp only [Act.put, List.getElem_toArray, List.getElem_cons_zero, List.getElem_cons_succ, List.setIfInBounds_toArray, List.set_cons_zero, List.set_cons_succ]

                refine wpAnyH_take (i := 26) (v := ?_) rfl (by kernel_rfl) (by kernel_rfl) (by kernel_rfl) (fun _ _ _ h => h) (Or.inl ⟨by rfl, ?_⟩) hS ?_
                rotate_left 1
                · intro wq hq
                  obtain ⟨q0, q1, q2, q3, q4, _⟩ := tx_cells hq.1
                  go_simp; (try with_reducible rfl)
                try simp only [Act.put, List.getElem_toArray, List.getElem_cons_zero, List.getElem_cons_succ, List.setIfInBounds_toArray, List.set_cons_zero, List.set_cons_succ]

                refine wpAnyH_done (by kernel_rfl) ?_ _
                go_wp2_with fail
                go_meet
                exact ⟨false, rfl, (by show false = decide _; rw [decide_eq_false]; intro h; exact h.2.2.2 h41), hS.2⟩

              · skip
                refine wp_region_held_drew (S := fun w' => TxB w' X s j d' false gr2 ∧ Below wr.heap.size wr w') (by kernel_rfl) ⟨HTX.out.below ((Below.refl _ wr).drew), (Below.refl _ wr).drew⟩ ?_
                intro hS
                change wpAnyH _ _ _ _ _ 27 (Array.replicate 27 false) _ (World.drew _)
                generalize wr.drew = wz at hS ⊢

                refine wpAnyH_take (i := 0) (v := ?_) rfl (by kernel_rfl) (by kernel_rfl) (by kernel_rfl) (fun _ _ _ h => h) (Or.inl ⟨by rfl, ?_⟩) hS ?_
                rotate_left 1
                · intro wq hq
                  obtain ⟨q0, q1, q2, q3, q4, _⟩ := tx_cells hq.1
                  go_simp; (try with_reducible rfl)
                try simp only [Act.put, List.getElem_toArray, List.getElem_cons_zero, List.setIfInBounds_toArray, List.set_cons_zero, List.set_cons_succ]

                refine wpAnyH_take (i := 1) (v := ?_) rfl (by kernel_rfl) (by kernel_rfl) (by kernel_rfl) (fun _ _ _ h => h) (Or.inl ⟨by rfl, ?_⟩) hS ?_
                rotate_left 1
                · intro wq hq
                  obtain ⟨q0, q1, q2, q3, q4, _⟩ := tx_cells hq.1
                  go_simp; (try with_reducible rfl)
                try simp only [Act.put, List.getElem_toArray, List.getElem_cons_zero, List.getElem_cons_succ, List.setIfInBounds_toArray, List.set_cons_zero, List.set_cons_succ]

                refine wpAnyH_take (i := 2) (v := ?_) rfl (by kernel_rfl) (by kernel_rfl) (by kernel_rfl) (fun _ _ _ h => h) (Or.inl ⟨by rfl, ?_⟩) hS ?_
                rotate_left 1
                · intro wq hq
                  obtain ⟨q0, q1, q2, q3, q4, _⟩ := tx_cells hq.1
                  go_simp; (try with_reducible rfl)
                try simp only [Act.put, List.getElem_toArray, List.getElem_cons_zero, List.getElem_cons_succ, List.setIfInBounds_toArray, List.set_cons_zero, List.set_cons_succ]

                refine wpAnyH_take (i := 3) (v := ?_) rfl (by kernel_rfl) (by kernel_rfl) (by kernel_rfl) (fun _ _ _ h => h) (Or.inl ⟨by rfl, ?_⟩) hS ?_
                rotate_left 1
                · intro wq hq
                  obtain ⟨q0, q1, q2, q3, q4, _⟩ := tx_cells hq.1
                  go_simp; (try with_reducible rfl)
                try simp only [Act.put, List.getElem_toArray, List.getElem_cons_zero, List.getElem_cons_succ, List.setIfInBounds_toArray, List.set_cons_zero, List.set_cons_succ]

                refine wpAnyH_take (i := 4) (v := ?_) rfl (by kernel_rfl) (by kernel_rfl) (by kernel_rfl) (fun _ _ _ h => h) (Or.inl ⟨by rfl, ?_⟩) hS ?_
                rotate_left 1
                · intro wq hq
                  obtain ⟨q0, q1, q2, q3, q4, _⟩ := tx_cells hq.1
                  go_simp; (try with_reducible rfl)
                try simp only [Act.put, List.getElem_toArray, List.getElem_cons_zero, List.getElem_cons_succ, List.setIfInBounds_toArray, List.set_cons_zero, List.set_cons_succ]

                refine wpAnyH_take (i := 5) (v := ?_) rfl (by kernel_rfl) (by kernel_rfl) (by kernel_rfl) (fun _ _ _ h => h) (Or.inl ⟨by rfl, ?_⟩) hS ?_
                rotate_left 1
                · intro wq hq
                  obtain ⟨q0, q1, q2, q3, q4, _⟩ := tx_cells hq.1
                  go_simp; (try with_reducible rfl)
                try simp only [Act.put, List.getElem_toArray, List.getElem_cons_zero, List.getElem_cons_succ, List.setIfInBounds_toArray, List.set_cons_zero, List.set_cons_succ]

                refine wpAnyH_take (i := 6) (v := ?_) rfl (by kernel_rfl) (by kernel_rfl) (by kernel_rfl) (fun _ _ _ h => h) (Or.inl ⟨by rfl, ?_⟩) hS ?_
                rotate_left 1
                · intro wq hq
                  obtain ⟨q0, q1, q2, q3, q4, _⟩ := tx_cells hq.1
                  go_simp; (try with_reducible rfl)
                try simp only [Act.put, List.getElem_toArray, List.getElem_cons_zero, List.getElem_cons_succ, List.setIfInBounds_toArray, List.set_cons_zero, List.set_cons_succ]

                refine wpAnyH_take (i := 7) (v := ?_) rfl (by kernel_rfl) (by kernel_rfl) (by kernel_rfl) (fun _ _ _ h => h) (Or.inl ⟨by rfl, ?_⟩) hS ?_
                rotate_left 1
                · intro wq hq
                  obtain ⟨q0, q1, q2, q3, q4, _⟩ := tx_cells hq.1
                  go_simp; (try with_reducible rfl)
                try simp only [Act.put, List.getElem_toArray, List.getElem_cons_zero, List.getElem_cons_succ, List.setIfInBounds_toArray, List.set_cons_zero, List.set_cons_succ]

                refine wpAnyH_take (i := 8) (v := ?_) rfl (by kernel_rfl) (by kernel_rfl) (by kernel_rfl) (fun _ _ _ h => h) (Or.inl ⟨by rfl, ?_⟩) hS ?_
                rotate_left 1
                · intro wq hq
                  obtain ⟨q0, q1, q2, q3, q4, _⟩ := tx_cells hq.1
                  go_simp; (try with_reducible rfl)
                try simp only [Act.put, List.getElem_toArray, List.getElem_cons_zero, List.getElem_cons_succ, List.setIfInBounds_toArray, List.set_cons_zero, List.set_cons_succ]

                refine wpAnyH_take (i := 9) (v := ?_) rfl (by kernel_rfl) (by kernel_rfl) (by kernel_rfl) (fun _ _ _ h => h) (Or.inl ⟨by rfl, ?_⟩) hS ?_
                rotate_left 1
                · intro wq hq
                  obtain ⟨q0, q1, q2, q3, q4, _⟩ := tx_cells hq.1
                  go_simp; (try with_reducible rfl)
                try simp only [Act.put, List.getElem_toArray, List.getElem_cons_zero, List.getElem_cons_succ, List.setIfInBounds_toArray, List.set_cons_zero, List.set_cons_succ]

                refine wpAnyH_take (i := 10) (v := ?_) rfl (by kernel_rfl) (by kernel_rfl) (by kernel_rfl) (fun _ _ _ h => h) (Or.inl ⟨by rfl, ?_⟩) hS ?_
                rotate_left 1
                · intro wq hq
                  obtain ⟨q0, q1, q2, q3, q4, _⟩ := tx_cells hq.1
                  go_simp; (try with_reducible rfl)
                try simp only [Act.put, List.getElem_toArray, List.getElem_cons_zero, List.getElem_cons_succ, List.setIfInBounds_toArray, List.set_cons_zero, List.set_cons_succ]

                refine wpAnyH_take (i := 11) (v := ?_) rfl (by kernel_rfl) (by kernel_rfl) (by kernel_rfl) (fun _ _ _ h => h) (Or.inl ⟨by rfl, ?_⟩) hS ?_
                rotate_left 1
                · intro wq hq
                  obtain ⟨q0, q1, q2, q3, q4, _⟩ := tx_cells hq.1
                  go_simp; (try with_reducible rfl)
                try simp only [Act.put, List.getElem_toArray, List.getElem_cons_zero, List.getElem_cons_succ, List.setIfInBounds_toArray, List.set_cons_zero, List.set_cons_succ]

                refine wpAnyH_take (i := 12) (v := ?_) rfl (by kernel_rfl) (by kernel_rfl) (by kernel_rfl) (fun _ _ _ h => h) (Or.inl ⟨by rfl, ?_⟩) hS ?_
                rotate_left 1
                · intro wq hq
                  obtain ⟨q0, q1, q2, q3, q4, _⟩ := tx_cells hq.1
                  go_simp; (try with_reducible rfl)
                try simp only [Act.put, List.getElem_toArray, List.getElem_cons_zero, List.getElem_cons_succ, List.setIfInBounds_toArray, List.set_cons_zero, List.set_cons_succ]

                refine wpAnyH_take (i := 13) (v := ?_) rfl (by kernel_rfl) (by kernel_rfl) (by kernel_rfl) (fun _ _ _ h => h) (Or.inl ⟨by rfl, ?_⟩) hS ?_
                rotate_left 1
                · intro wq hq
                  obtain ⟨q0, q1, q2, q3, q4, _⟩ := tx_cells hq.1
                  go_simp; (try with_reducible rfl)
                try simp only [Act.put, List.getElem_toArray, List.getElem_cons_zero, List.getElem_cons_succ, List.setIfInBounds_toArray, List.set_cons_zero, List.set_cons_succ]

                refine wpAnyH_take (i := 14) (v := ?_) rfl (by kernel_rfl) (by kernel_rfl) (by kernel_rfl) (fun _ _ _ h => h) (Or.inl ⟨by rfl, ?_⟩) hS ?_
                rotate_left 1
                · intro wq hq
                  obtain ⟨q0, q1, q2, q3, q4, _⟩ := tx_cells hq.1
                  go_simp; (try with_reducible rfl)
                try simp only [Act.put, List.getElem_toArray, List.getElem_cons_zero, List.getElem_cons_succ, List.setIfInBounds_toArray, List.set_cons_zero, List.set_cons_succ]

                refine wpAnyH_take (i := 15) (v := ?_) rfl (by kernel_rfl) (by kernel_rfl) (by kernel_rfl) (fun _ _ _ h => h) (Or.inl ⟨by rfl, ?_⟩) hS ?_
                rotate_left 1
                · intro wq hq
                  obtain ⟨q0, q1, q2, q3, q4, _⟩ := tx_cells hq.1
                  go_simp; (try with_reducible rfl)
                try simp only [Act.put, List.getElem_toArray, List.getElem_cons_zero, List.getElem_cons_succ, List.setIfInBounds_toArray, List.set_cons_zero, List.set_cons_succ]

                refine wpAnyH_take (i := 16) (v := ?_) rfl (by kernel_rfl) (by kernel_rfl) (by kernel_rfl) (fun _ _ _ h => h) (Or.inl ⟨by rfl, ?_⟩) hS ?_
                rotate_left 1
                · intro wq hq
                  obtain ⟨q0, q1, q2, q3, q4, _⟩ := tx_cells hq.1
                  go_simp; (try with_reducible rfl)
                try simp only [Act.put, List.getElem_toArray, List.getElem_cons_zero, List.getElem_cons_succ, List.setIfInBounds_toArray, List.set_cons_zero, List.set_cons_succ]

                refine wpAnyH_take (i := 17) (v := ?_) rfl (by kernel_rfl) (by kernel_rfl) (by kernel_rfl) (fun _ _ _ h => h) (Or.inl ⟨by rfl, ?_⟩) hS ?_
                rotate_left 1
                · intro wq hq
                  obtain ⟨q0, q1, q2, q3, q4, _⟩ := tx_cells hq.1
                  go_simp; (try with_reducible rfl)
                try simp only [Act.put, List.getElem_toArray, List.getElem_cons_zero, List.getElem_cons_succ, List.setIfInBounds_toArray, List.set_cons_zero, List.set_cons_succ]

                refine wpAnyH_take (i := 18) (v := ?_) rfl (by kernel_rfl) (by kernel_rfl) (by kernel_rfl) (fun _ _ _ h => h) (Or.inl ⟨by rfl, ?_⟩) hS ?_
                rotate_left 1
                · intro wq hq
                  obtain ⟨q0, q1, q2, q3, q4, _⟩ := tx_cells hq.1
                  go_simp; (try with_reducible rfl)
                try simp only [Act.put, List.getElem_toArray, List.getElem_cons_zero, List.getElem_cons_succ, List.setIfInBounds_toArray, List.set_cons_zero, List.set_cons_succ]

                refine wpAnyH_ready (rs := [19]) (by kernel_rfl) (by simp) ?_
                refine AllReadyH.cons rfl (fun K' hK => ?_) AllReadyH.nil
                go_simp
                go_at_call 117
                refine (HSE1.out _ hS.1).mono ?_
                rintro e wy ⟨rfl, hty, hby⟩
                refine hK.out _ _ ⟨hty, below_tr hS.2 hby hS.2.size⟩ (fun hS => ?_)
                clear hK K' hty hby
                rw [decide_eq_false h124]
                try simp only [Act.put, List.getElem_toArray, List.getElem_cons_zero, List.getElem_cons_succ, List.setIfInBounds_toArray, List.set_cons_zero, List.set_cons_succ]

                refine wpAnyH_take (i := 20) (v := ?_) rfl (by kernel_rfl) (by kernel_rfl) (by kernel_rfl) (fun _ _ _ h => h) (Or.inl ⟨by rfl, ?_⟩) hS ?_
                rotate_left 1
                · intro wq hq
                  obtain ⟨q0, q1, q2, q3, q4, _⟩ := tx_cells hq.1
                  go_simp; (try with_reducible rfl)
                try simp only [Act.put, List.getElem_toArray, List.getElem_cons_zero, List.getElem_cons_succ, List.setIfInBounds_toArray, List.set_cons_zero, List.set_cons_succ]

                refine wpAnyH_take (i := 21) (v := ?_) rfl (by kernel_rfl) (by kernel_rfl) (by kernel_rfl) (fun _ _ _ h => h) (Or.inl ⟨by rfl, ?_⟩) hS ?_
                rotate_left 1
                · intro wq hq
                  obtain ⟨q0, q1, q2, q3, q4, _⟩ := tx_cells hq.1
                  go_simp; (try with_reducible rfl)
                try simp only [Act.put, List.getElem_toArray, List.getElem_cons_zero, List.getElem_cons_succ, List.setIfInBounds_toArray, List.set_cons_zero, List.set_cons_succ]

                refine wpAnyH_take (i := 22) (v := ?_) rfl (by kernel_rfl) (by kernel_rfl) (by kernel_rfl) (fun _ _ _ h => h) (Or.inl ⟨by rfl, ?_⟩) hS ?_
                rotate_left 1
                · intro wq hq
                  obtain ⟨q0, q1, q2, q3, q4, _⟩ := tx_cells hq.1
                  go_simp; (try with_reducible rfl)
                try simp only [Act.put, List.getElem_toArray, List.getElem_cons_zero, List.getElem_cons_succ, List.setIfInBounds_toArray, List.set_cons_zero, List.set_cons_succ]

                refine wpAnyH_take (i := 23) (v := ?_) rfl (by kernel_rfl) (by kernel_rfl) (by kernel_rfl) (fun _ _ _ h => h) (Or.inl ⟨by rfl, ?_⟩) hS ?_
                rotate_left 1
                · intro wq hq
                  obtain ⟨q0, q1, q2, q3, q4, _⟩ := tx_cells hq.1
                  go_simp; (try with_reducible rfl)
                try simp only [Act.put, List.getElem_toArray, List.getElem_cons_zero, List.getElem_cons_succ, List.setIfInBounds_toArray, List.set_cons_zero, List.set_cons_succ]

                refine wpAnyH_ready (rs := [24]) (by kernel_rfl) (by simp) ?_
                refine AllReadyH.cons rfl (fun K' hK => ?_) AllReadyH.nil
                go_simp
                go_at_call 117
                refine (HSE2.out _ hS.1).mono ?_
                rintro e wy ⟨rfl, hty, hby⟩
                refine hK.out _ _ ⟨hty, below_tr hS.2 hby hS.2.size⟩ (fun hS => ?_)
                clear hK K' hty hby
                rw [decide_eq_false h41]
                try simp only [Act.put, List.getElem_toArray, List.getElem_cons_zero, List.getElem_cons_succ, List.setIfInBounds_toArray, List.set_cons_zero, List.set_cons_succ]

                refine wpAnyH_take (i := 25) (v := ?_) rfl (by kernel_rfl) (by kernel_rfl) (by kernel_rfl) (fun _ _ _ h => h) (Or.inl ⟨by rfl, ?_⟩) hS ?_
                rotate_left 1
                · intro wq hq
                  obtain ⟨q0, q1, q2, q3, q4, _⟩ := tx_cells hq.1
                  go_simp; (try with_reducible rfl)
                try simp only [Act.put, List.getElem_toArray, List.getElem_cons_zero, List.getElem_cons_succ, List.setIfInBounds_toArray, List.set_cons_zero, List.set_cons_succ]

                refine wpAnyH_take (i := 26) (v := ?_) rfl (by kernel_rfl) (by kernel_rfl) (by kernel_rfl) (fun _ _ _ h => h) (Or.inl ⟨by rfl, ?_⟩) hS ?_
                rotate_left 1
                · intro wq hq
                  obtain ⟨q0, q1, q2, q3, q4, _⟩ := tx_cells hq.1
                  go_simp; (try with_reducible rfl)
                try simp only [Act.put, List.getElem_toArray, List.getElem_cons_zero, List.getElem_cons_succ, List.setIfInBounds_toArray, List.set_cons_zero, List.set_cons_succ]

                refine wpAnyH_done (by kernel_rfl) ?_ _
                go_wp2_with fail
                go_meet
                exact ⟨true, rfl, (by show true = decide _; rw [decide_eq_true]; exact ⟨by first | rfl | trivial, hlt, h124, h41⟩), hS.2⟩

          · have hji : ¬ (j : Int) < s.size := by omega
            have hjd : decide ((j : Int) < s.size) = false := decide_eq_false hji
            refine wp_region_held_drew (S := fun w' => TxB w' X s j d' false gr2 ∧ Below wr.heap.size wr w') (by kernel_rfl) ⟨HTX.out.below ((Below.refl _ wr).drew), (Below.refl _ wr).drew⟩ ?_
            intro hS
            change wpAnyH _ _ _ _ _ 27 (Array.replicate 27 false) _ (World.drew _)
            generalize wr.drew = wz at hS ⊢

            refine wpAnyH_take (i := 0) (v := ?_) rfl (by kernel_rfl) (by kernel_rfl) (by kernel_rfl) (fun _ _ _ h => h) (Or.inl ⟨by rfl, ?_⟩) hS ?_
            rotate_left 1
            · intro wq hq
              obtain ⟨q0, q1, q2, q3, q4, _⟩ := tx_cells hq.1
              go_simp; (try with_reducible rfl)
            try simp only [Act.put, List.getElem_toArray, List.getElem_cons_zero, List.setIfInBounds_toArray, List.set_cons_zero, List.set_cons_succ]

            refine wpAnyH_take (i := 1) (v := ?_) rfl (by kernel_rfl) (by kernel_rfl) (by kernel_rfl) (fun _ _ _ h => h) (Or.inl ⟨by rfl, ?_⟩) hS ?_
            rotate_left 1
            · intro wq hq
              obtain ⟨q0, q1, q2, q3, q4, _⟩ := tx_cells hq.1
              go_simp; (try with_reducible rfl)
            try simp only [Act.put, List.getElem_toArray, List.getElem_cons_zero, List.getElem_cons_succ, List.setIfInBounds_toArray, List.set_cons_zero, List.set_cons_succ]

            refine wpAnyH_take (i := 2) (v := ?_) rfl (by kernel_rfl) (by kernel_rfl) (by kernel_rfl) (fun _ _ _ h => h) (Or.inl ⟨by rfl, ?_⟩) hS ?_
            rotate_left 1
            · intro wq hq
              obtain ⟨q0, q1, q2, q3, q4, _⟩ := tx_cells hq.1
              go_simp; (try with_reducible rfl)
            try simp only [Act.put, List.getElem_toArray, List.getElem_cons_zero, List.getElem_cons_succ, List.setIfInBounds_toArray, List.set_cons_zero, List.set_cons_succ]

            refine wpAnyH_take (i := 3) (v := ?_) rfl (by kernel_rfl) (by kernel_rfl) (by kernel_rfl) (fun _ _ _ h => h) (Or.inl ⟨by rfl, ?_⟩) hS ?_
            rotate_left 1
            · intro wq hq
              obtain ⟨q0, q1, q2, q3, q4, _⟩ := tx_cells hq.1
              go_simp; (try with_reducible rfl)
            try simp only [Act.put, List.getElem_toArray, List.getElem_cons_zero, List.getElem_cons_succ, List.setIfInBounds_toArray, List.set_cons_zero, List.set_cons_succ]

            refine wpAnyH_take (i := 4) (v := ?_) rfl (by kernel_rfl) (by kernel_rfl) (by kernel_rfl) (fun _ _ _ h => h) (Or.inl ⟨by rfl, ?_⟩) hS ?_
            rotate_left 1
            · intro wq hq
              obtain ⟨q0, q1, q2, q3, q4, _⟩ := tx_cells hq.1
              go_simp; (try with_reducible rfl)
            try simp only [Act.put, List.getElem_toArray, List.getElem_cons_zero, List.getElem_cons_succ, List.setIfInBounds_toArray, List.set_cons_zero, List.set_cons_succ]

            refine wpAnyH_take (i := 5) (v := ?_) rfl (by kernel_rfl) (by kernel_rfl) (by kernel_rfl) (fun _ _ _ h => h) (Or.inl ⟨by rfl, ?_⟩) hS ?_
            rotate_left 1
            · intro wq hq
              obtain ⟨q0, q1, q2, q3, q4, _⟩ := tx_cells hq.1
              go_simp; (try with_reducible rfl)
            try simp only [Act.put, List.getElem_toArray, List.getElem_cons_zero, List.getElem_cons_succ, List.setIfInBounds_toArray, List.set_cons_zero, List.set_cons_succ]

            refine wpAnyH_take (i := 6) (v := ?_) rfl (by kernel_rfl) (by kernel_rfl) (by kernel_rfl) (fun _ _ _ h => h) (Or.inl ⟨by rfl, ?_⟩) hS ?_
            rotate_left 1
            · intro wq hq
              obtain ⟨q0, q1, q2, q3, q4, _⟩ := tx_cells hq.1
              go_simp; (try with_reducible rfl)
            try simp only [Act.put, List.getElem_toArray, List.getElem_cons_zero, List.getElem_cons_succ, List.setIfInBounds_toArray, List.set_cons_zero, List.set_cons_succ]

            refine wpAnyH_take (i := 7) (v := ?_) rfl (by kernel_rfl) (by kernel_rfl) (by kernel_rfl) (fun _ _ _ h => h) (Or.inl ⟨by rfl, ?_⟩) hS ?_
            rotate_left 1
            · intro wq hq
              obtain ⟨q0, q1, q2, q3, q4, _⟩ := tx_cells hq.1
              go_simp; (try with_reducible rfl)
            try simp only [Act.put, List.getElem_toArray, List.getElem_cons_zero, List.getElem_cons_succ, List.setIfInBounds_toArray, List.set_cons_zero, List.set_cons_succ]

            refine wpAnyH_take (i := 8) (v := ?_) rfl (by kernel_rfl) (by kernel_rfl) (by kernel_rfl) (fun _ _ _ h => h) (Or.inl ⟨by rfl, ?_⟩) hS ?_
            rotate_left 1
            · intro wq hq
              obtain ⟨q0, q1, q2, q3, q4, _⟩ := tx_cells hq.1
              go_simp; (try with_reducible rfl)
            try simp only [Act.put, List.getElem_toArray, List.getElem_cons_zero, List.getElem_cons_succ, List.setIfInBounds_toArray, List.set_cons_zero, List.set_cons_succ]

            refine wpAnyH_take (i := 9) (v := ?_) rfl (by kernel_rfl) (by kernel_rfl) (by kernel_rfl) (fun _ _ _ h => h) (Or.inl ⟨by rfl, ?_⟩) hS ?_
            rotate_left 1
            · intro wq hq
              obtain ⟨q0, q1, q2, q3, q4, _⟩ := tx_cells hq.1
              go_simp; (try with_reducible rfl)
            try simp only [Act.put, List.getElem_toArray, List.getElem_cons_zero, List.getElem_cons_succ, List.setIfInBounds_toArray, List.set_cons_zero, List.set_cons_succ]

            refine wpAnyH_take (i := 10) (v := ?_) rfl (by kernel_rfl) (by kernel_rfl) (by kernel_rfl) (fun _ _ _ h => h) (Or.inl ⟨by rfl, ?_⟩) hS ?_
            rotate_left 1
            · intro wq hq
              obtain ⟨q0, q1, q2, q3, q4, _⟩ := tx_cells hq.1
              go_simp; (try with_reducible rfl)
            try simp only [Act.put, List.getElem_toArray, List.getElem_cons_zero, List.getElem_cons_succ, List.setIfInBounds_toArray, List.set_cons_zero, List.set_cons_succ]

            refine wpAnyH_take (i := 11) (v := ?_) rfl (by kernel_rfl) (by kernel_rfl) (by kernel_rfl) (fun _ _ _ h => h) (Or.inl ⟨by rfl, ?_⟩) hS ?_
            rotate_left 1
            · intro wq hq
              obtain ⟨q0, q1, q2, q3, q4, _⟩ := tx_cells hq.1
              go_simp; (try with_reducible rfl)
            try simp only [Act.put, List.getElem_toArray, List.getElem_cons_zero, List.getElem_cons_succ, List.setIfInBounds_toArray, List.set_cons_zero, List.set_cons_succ]

            refine wpAnyH_take (i := 12) (v := ?_) rfl (by kernel_rfl) (by kernel_rfl) (by kernel_rfl) (fun _ _ _ h => h) (Or.inl ⟨by rfl, ?_⟩) hS ?_
            rotate_left 1
            · intro wq hq
              obtain ⟨q0, q1, q2, q3, q4, _⟩ := tx_cells hq.1
              go_simp; (try with_reducible rfl)
            try simp only [Act.put, List.getElem_toArray, List.getElem_cons_zero, List.getElem_cons_succ, List.setIfInBounds_toArray, List.set_cons_zero, List.set_cons_succ]

            refine wpAnyH_take (i := 13) (v := ?_) rfl (by kernel_rfl) (by kernel_rfl) (by kernel_rfl) (fun _ _ _ h => h) (Or.inl ⟨by rfl, ?_⟩) hS ?_
            rotate_left 1
            · intro wq hq
              obtain ⟨q0, q1, q2, q3, q4, _⟩ := tx_cells hq.1
              go_simp; (try with_reducible rfl)
            try simp only [Act.put, List.getElem_toArray, List.getElem_cons_zero, List.getElem_cons_succ, List.setIfInBounds_toArray, List.set_cons_zero, List.set_cons_succ]

            refine wpAnyH_take (i := 14) (v := ?_) rfl (by kernel_rfl) (by kernel_rfl) (by kernel_rfl) (fun _ _ _ h => h) (Or.inl ⟨by rfl, ?_⟩) hS ?_
            rotate_left 1
            · intro wq hq
              obtain ⟨q0, q1, q2, q3, q4, _⟩ := tx_cells hq.1
              go_simp; (try with_reducible rfl)
            try simp only [Act.put, List.getElem_toArray, List.getElem_cons_zero, List.getElem_cons_succ, List.setIfInBounds_toArray, List.set_cons_zero, List.set_cons_succ]

            refine wpAnyH_take (i := 15) (v := ?_) rfl (by kernel_rfl) (by kernel_rfl) (by kernel_rfl) (fun _ _ _ h => h) (Or.inl ⟨by rfl, ?_⟩) hS ?_
            rotate_left 1
            · intro wq hq
              obtain ⟨q0, q1, q2, q3, q4, _⟩ := tx_cells hq.1
              go_simp; (try with_reducible rfl)
            try simp only [Act.put, List.getElem_toArray, List.getElem_cons_zero, List.getElem_cons_succ, List.setIfInBounds_toArray, List.set_cons_zero, List.set_cons_succ]

            refine wpAnyH_take (i := 16) (v := ?_) rfl (by kernel_rfl) (by kernel_rfl) (by kernel_rfl) (fun _ _ _ h => h) (Or.inl ⟨by rfl, ?_⟩) hS ?_
            rotate_left 1
            · intro wq hq
              obtain ⟨q0, q1, q2, q3, q4, _⟩ := tx_cells hq.1
              go_simp; (try with_reducible rfl)
            try simp only [Act.put, List.getElem_toArray, List.getElem_cons_zero, List.getElem_cons_succ, List.setIfInBounds_toArray, List.set_cons_zero, List.set_cons_succ]

            refine wpAnyH_take (i := 17) (v := ?_) rfl (by kernel_rfl) (by kernel_rfl) (by kernel_rfl) (fun _ _ _ h => h) (Or.inl ⟨by rfl, ?_⟩) hS ?_
            rotate_left 1
            · intro wq hq
              obtain ⟨q0, q1, q2, q3, q4, _⟩ := tx_cells hq.1
              go_simp; (try with_reducible rfl)
            try simp only [Act.put, List.getElem_toArray, List.getElem_cons_zero, List.getElem_cons_succ, List.setIfInBounds_toArray, List.set_cons_zero, List.set_cons_succ]

            refine wpAnyH_take (i := 18) (v := undef) rfl (by kernel_rfl) (by kernel_rfl) (by kernel_rfl) (fun _ _ _ h => h) (Or.inr ⟨by rfl, rfl⟩) hS ?_
            try simp only [Act.put, List.getElem_toArray, List.getElem_cons_zero, List.getElem_cons_succ, List.setIfInBounds_toArray, List.set_cons_zero, List.set_cons_succ]

            refine wpAnyH_ready (rs := [19]) (by kernel_rfl) (by simp) ?_
            refine AllReadyH.cons rfl (fun K' hK => ?_) AllReadyH.nil
            go_simp
            refine hK.out _ _ hS (fun hS => ?_)
            clear hK K'
            try simp only [Act.put, List.getElem_toArray, List.getElem_cons_zero, List.getElem_cons_succ, List.setIfInBounds_toArray, List.set_cons_zero, List.set_cons_succ]

            refine wpAnyH_take (i := 20) (v := undef) rfl (by kernel_rfl) (by kernel_rfl) (by kernel_rfl) (fun _ _ _ h => h) (Or.inr ⟨by rfl, rfl⟩) hS ?_
            try simp only [Act.put, List.getElem_toArray, List.getElem_cons_zero, List.getElem_cons_succ, List.setIfInBounds_toArray, List.set_cons_zero, List.set_cons_succ]

            refine wpAnyH_take (i := 21) (v := ?_) rfl (by kernel_rfl) (by kernel_rfl) (by kernel_rfl) (fun _ _ _ h => h) (Or.inl ⟨by rfl, ?_⟩) hS ?_
            rotate_left 1
            · intro wq hq
              obtain ⟨q0, q1, q2, q3, q4, _⟩ := tx_cells hq.1
              go_simp; (try with_reducible rfl)
            try simp only [Act.put, List.getElem_toArray, List.getElem_cons_zero, List.getElem_cons_succ, List.setIfInBounds_toArray, List.set_cons_zero, List.set_cons_succ]

            refine wpAnyH_take (i := 22) (v := ?_) rfl (by kernel_rfl) (by kernel_rfl) (by kernel_rfl) (fun _ _ _ h => h) (Or.inl ⟨by rfl, ?_⟩) hS ?_
            rotate_left 1
            · intro wq hq
              obtain ⟨q0, q1, q2, q3, q4, _⟩ := tx_cells hq.1
              go_simp; (try with_reducible rfl)
            try simp only [Act.put, List.getElem_toArray, List.getElem_cons_zero, List.getElem_cons_succ, List.setIfInBounds_toArray, List.set_cons_zero, List.set_cons_succ]

            refine wpAnyH_take (i := 23) (v := undef) rfl (by kernel_rfl) (by kernel_rfl) (by kernel_rfl) (fun _ _ _ h => h) (Or.inr ⟨by rfl, rfl⟩) hS ?_
            try simp only [Act.put, List.getElem_toArray, List.getElem_cons_zero, List.getElem_cons_succ, List.setIfInBounds_toArray, List.set_cons_zero, List.set_cons_succ]

            refine wpAnyH_ready (rs := [24]) (by kernel_rfl) (by simp) ?_
            refine AllReadyH.cons rfl (fun K' hK => ?_) AllReadyH.nil
            go_simp
            refine hK.out _ _ hS (fun hS => ?_)
            clear hK K'
            try simp only [Act.put, List.getElem_toArray, List.getElem_cons_zero, List.getElem_cons_succ, List.setIfInBounds_toArray, List.set_cons_zero, List.set_cons_succ]

            refine wpAnyH_take (i := 25) (v := undef) rfl (by kernel_rfl) (by kernel_rfl) (by kernel_rfl) (fun _ _ _ h => h) (Or.inr ⟨by rfl, rfl⟩) hS ?_
            try simp only [Act.put, List.getElem_toArray, List.getElem_cons_zero, List.getElem_cons_succ, List.setIfInBounds_toArray, List.set_cons_zero, List.set_cons_succ]

            refine wpAnyH_take (i := 26) (v := ?_) rfl (by kernel_rfl) (by kernel_rfl) (by kernel_rfl) (fun _ _ _ h => h) (Or.inl ⟨by rfl, ?_⟩) hS ?_
            rotate_left 1
            · intro wq hq
              obtain ⟨q0, q1, q2, q3, q4, _⟩ := tx_cells hq.1
              go_simp; (try with_reducible rfl)
            try simp only [Act.put, List.getElem_toArray, List.getElem_cons_zero, List.getElem_cons_succ, List.setIfInBounds_toArray, List.set_cons_zero, List.set_cons_succ]

            refine wpAnyH_done (by kernel_rfl) ?_ _
            go_wp2_with fail
            go_meet
            exact ⟨false, rfl, (by show false = decide _; rw [decide_eq_false]; intro h; omega), hS.2⟩

        · skip
          refine wp_region_held_drew (S := fun w' => TxB w' X s j d' true gr2 ∧ Below wr.heap.size wr w') (by kernel_rfl) ⟨HTX.out.below ((Below.refl _ wr).drew), (Below.refl _ wr).drew⟩ ?_
          intro hS
          change wpAnyH _ _ _ _ _ 27 (Array.replicate 27 false) _ (World.drew _)
          generalize wr.drew = wz at hS ⊢

          refine wpAnyH_take (i := 0) (v := ?_) rfl (by kernel_rfl) (by kernel_rfl) (by kernel_rfl) (fun _ _ _ h => h) (Or.inl ⟨by rfl, ?_⟩) hS ?_
          rotate_left 1
          · intro wq hq
            obtain ⟨q0, q1, q2, q3, q4, _⟩ := tx_cells hq.1
            go_simp; (try with_reducible rfl)
          try simp only [Act.put, List.getElem_toArray, List.getElem_cons_zero, List.setIfInBounds_toArray, List.set_cons_zero, List.set_cons_succ]

          refine wpAnyH_take (i := 1) (v := ?_) rfl (by kernel_rfl) (by kernel_rfl) (by kernel_rfl) (fun _ _ _ h => h) (Or.inl ⟨by rfl, ?_⟩) hS ?_
          rotate_left 1
          · intro wq hq
            obtain ⟨q0, q1, q2, q3, q4, _⟩ := tx_cells hq.1
            go_simp; (try with_reducible rfl)
          try simp only [Act.put, List.getElem_toArray, List.getElem_cons_zero, List.getElem_cons_succ, List.setIfInBounds_toArray, List.set_cons_zero, List.set_cons_succ]

          refine wpAnyH_take (i := 2) (v := ?_) rfl (by kernel_rfl) (by kernel_rfl) (by kernel_rfl) (fun _ _ _ h => h) (Or.inl ⟨by rfl, ?_⟩) hS ?_
          rotate_left 1
          · intro wq hq
            obtain ⟨q0, q1, q2, q3, q4, _⟩ := tx_cells hq.1
            go_simp; (try with_reducible rfl)
          try simp only [Act.put, List.getElem_toArray, List.getElem_cons_zero, List.getElem_cons_succ, List.setIfInBounds_toArray, List.set_cons_zero, List.set_cons_succ]

          refine wpAnyH_take (i := 3) (v := ?_) rfl (by kernel_rfl) (by kernel_rfl) (by kernel_rfl) (fun _ _ _ h => h) (Or.inl ⟨by rfl, ?_⟩) hS ?_
          rotate_left 1
          · intro wq hq
            obtain ⟨q0, q1, q2, q3, q4, _⟩ := tx_cells hq.1
            go_simp; (try with_reducible rfl)
          try simp only [Act.put, List.getElem_toArray, List.getElem_cons_zero, List.getElem_cons_succ, List.setIfInBounds_toArray, List.set_cons_zero, List.set_cons_succ]

          refine wpAnyH_take (i := 4) (v := ?_) rfl (by kernel_rfl) (by kernel_rfl) (by kernel_rfl) (fun _ _ _ h => h) (Or.inl ⟨by rfl, ?_⟩) hS ?_
          rotate_left 1
          · intro wq hq
            obtain ⟨q0, q1, q2, q3, q4, _⟩ := tx_cells hq.1
            go_simp; (try with_reducible rfl)
          try simp only [Act.put, List.getElem_toArray, List.getElem_cons_zero, List.getElem_cons_succ, List.setIfInBounds_toArray, List.set_cons_zero, List.set_cons_succ]

          refine wpAnyH_take (i := 5) (v := ?_) rfl (by kernel_rfl) (by kernel_rfl) (by kernel_rfl) (fun _ _ _ h => h) (Or.inl ⟨by rfl, ?_⟩) hS ?_
          rotate_left 1
          · intro wq hq
            obtain ⟨q0, q1, q2, q3, q4, _⟩ := tx_cells hq.1
            go_simp; (try with_reducible rfl)
          try simp only [Act.put, List.getElem_toArray, List.getElem_cons_zero, List.getElem_cons_succ, List.setIfInBounds_toArray, List.set_cons_zero, List.set_cons_succ]

          refine wpAnyH_take (i := 6) (v := undef) rfl (by kernel_rfl) (by kernel_rfl) (by kernel_rfl) (fun _ _ _ h => h) (Or.inr ⟨by rfl, rfl⟩) hS ?_
          try simp only [Act.put, List.getElem_toArray, List.getElem_cons_zero, List.getElem_cons_succ, List.setIfInBounds_toArray, List.set_cons_zero, List.set_cons_succ]

          refine wpAnyH_take (i := 7) (v := undef) rfl (by kernel_rfl) (by kernel_rfl) (by kernel_rfl) (fun _ _ _ h => h) (Or.inr ⟨by rfl, rfl⟩) hS ?_
          try simp only [Act.put, List.getElem_toArray, List.getElem_cons_zero, List.getElem_cons_succ, List.setIfInBounds_toArray, List.set_cons_zero, List.set_cons_succ]

          refine wpAnyH_take (i := 8) (v := undef) rfl (by kernel_rfl) (by kernel_rfl) (by kernel_rfl) (fun _ _ _ h => h) (Or.inr ⟨by rfl, rfl⟩) hS ?_
          try simp only [Act.put, List.getElem_toArray, List.getElem_cons_zero, List.getElem_cons_succ, List.setIfInBounds_toArray, List.set_cons_zero, List.set_cons_succ]

          refine wpAnyH_take (i := 9) (v := undef) rfl (by kernel_rfl) (by kernel_rfl) (by kernel_rfl) (fun _ _ _ h => h) (Or.inr ⟨by rfl, rfl⟩) hS ?_
          try simp only [Act.put, List.getElem_toArray, List.getElem_cons_zero, List.getElem_cons_succ, List.setIfInBounds_toArray, List.set_cons_zero, List.set_cons_succ]

          refine wpAnyH_take (i := 10) (v := undef) rfl (by kernel_rfl) (by kernel_rfl) (by kernel_rfl) (fun _ _ _ h => h) (Or.inr ⟨by rfl, rfl⟩) hS ?_
          try simp only [Act.put, List.getElem_toArray, List.getElem_cons_zero, List.getElem_cons_succ, List.setIfInBounds_toArray, List.set_cons_zero, List.set_cons_succ]

          refine wpAnyH_take (i := 11) (v := undef) rfl (by kernel_rfl) (by kernel_rfl) (by kernel_rfl) (fun _ _ _ h => h) (Or.inr ⟨by rfl, rfl⟩) hS ?_
          try simp only [Act.put, List.getElem_toArray, List.getElem_cons_zero, List.getElem_cons_succ, List.setIfInBounds_toArray, List.set_cons_zero, List.set_cons_succ]

          refine wpAnyH_take (i := 12) (v := undef) rfl (by kernel_rfl) (by kernel_rfl) (by kernel_rfl) (fun _ _ _ h => h) (Or.inr ⟨by rfl, rfl⟩) hS ?_
          try simp only [Act.put, List.getElem_toArray, List.getElem_cons_zero, List.getElem_cons_succ, List.setIfInBounds_toArray, List.set_cons_zero, List.set_cons_succ]

          refine wpAnyH_take (i := 13) (v := undef) rfl (by kernel_rfl) (by kernel_rfl) (by kernel_rfl) (fun _ _ _ h => h) (Or.inr ⟨by rfl, rfl⟩) hS ?_
          try simp only [Act.put, List.getElem_toArray, List.getElem_cons_zero, List.getElem_cons_succ, List.setIfInBounds_toArray, List.set_cons_zero, List.set_cons_succ]

          refine wpAnyH_take (i := 14) (v := undef) rfl (by kernel_rfl) (by kernel_rfl) (by kernel_rfl) (fun _ _ _ h => h) (Or.inr ⟨by rfl, rfl⟩) hS ?_
          try simp only [Act.put, List.getElem_toArray, List.getElem_cons_zero, List.getElem_cons_succ, List.setIfInBounds_toArray, List.set_cons_zero, List.set_cons_succ]

          refine wpAnyH_take (i := 15) (v := undef) rfl (by kernel_rfl) (by kernel_rfl) (by kernel_rfl) (fun _ _ _ h => h) (Or.inr ⟨by rfl, rfl⟩) hS ?_
          try simp only [Act.put, List.getElem_toArray, List.getElem_cons_zero, List.getElem_cons_succ, List.setIfInBounds_toArray, List.set_cons_zero, List.set_cons_succ]

          refine wpAnyH_take (i := 16) (v := ?_) rfl (by kernel_rfl) (by kernel_rfl) (by kernel_rfl) (fun _ _ _ h => h) (Or.inl ⟨by rfl, ?_⟩) hS ?_
          rotate_left 1
          · intro wq hq
            obtain ⟨q0, q1, q2, q3, q4, _⟩ := tx_cells hq.1
            go_simp; (try with_reducible rfl)
          try simp only [Act.put, List.getElem_toArray, List.getElem_cons_zero, List.getElem_cons_succ, List.setIfInBounds_toArray, List.set_cons_zero, List.set_cons_succ]

          refine wpAnyH_take (i := 17) (v := ?_) rfl (by kernel_rfl) (by kernel_rfl) (by kernel_rfl) (fun _ _ _ h => h) (Or.inl ⟨by rfl, ?_⟩) hS ?_
          rotate_left 1
          · intro wq hq
            obtain ⟨q0, q1, q2, q3, q4, _⟩ := tx_cells hq.1
            go_simp; (try with_reducible rfl)
          try simp only [Act.put, List.getElem_toArray, List.getElem_cons_zero, List.getElem_cons_succ, List.setIfInBounds_toArray, List.set_cons_zero, List.set_cons_succ]

          refine wpAnyH_take (i := 18) (v := undef) rfl (by kernel_rfl) (by kernel_rfl) (by kernel_rfl) (fun _ _ _ h => h) (Or.inr ⟨by rfl, rfl⟩) hS ?_
          try simp only [Act.put, List.getElem_toArray, List.getElem_cons_zero, List.getElem_cons_succ, List.setIfInBounds_toArray, List.set_cons_zero, List.set_cons_succ]

          refine wpAnyH_ready (rs := [19]) (by kernel_rfl) (by simp) ?_
          refine AllReadyH.cons rfl (fun K' hK => ?_) AllReadyH.nil
          go_simp
          refine hK.out _ _ hS (fun hS => ?_)
          clear hK K'
          try simp only [Act.put, List.getElem_toArray, List.getElem_cons_zero, List.getElem_cons_succ, List.setIfInBounds_toArray, List.set_cons_zero, List.set_cons_succ]

          refine wpAnyH_take (i := 20) (v := undef) rfl (by kernel_rfl) (by kernel_rfl) (by kernel_rfl) (fun _ _ _ h => h) (Or.inr ⟨by rfl, rfl⟩) hS ?_
          try simp only [Act.put, List.getElem_toArray, List.getElem_cons_zero, List.getElem_cons_succ, List.setIfInBounds_toArray, List.set_cons_zero, List.set_cons_succ]

          refine wpAnyH_take (i := 21) (v := ?_) rfl (by kernel_rfl) (by kernel_rfl) (by kernel_rfl) (fun _ _ _ h => h) (Or.inl ⟨by rfl, ?_⟩) hS ?_
          rotate_left 1
          · intro wq hq
            obtain ⟨q0, q1, q2, q3, q4, _⟩ := tx_cells hq.1
            go_simp; (try with_reducible rfl)
          try simp only [Act.put, List.getElem_toArray, List.getElem_cons_zero, List.getElem_cons_succ, List.setIfInBounds_toArray, List.set_cons_zero, List.set_cons_succ]

          refine wpAnyH_take (i := 22) (v := ?_) rfl (by kernel_rfl) (by kernel_rfl) (by kernel_rfl) (fun _ _ _ h => h) (Or.inl ⟨by rfl, ?_⟩) hS ?_
          rotate_left 1
          · intro wq hq
            obtain ⟨q0, q1, q2, q3, q4, _⟩ := tx_cells hq.1
            go_simp; (try with_reducible rfl)
          try simp only [Act.put, List.getElem_toArray, List.getElem_cons_zero, List.getElem_cons_succ, List.setIfInBounds_toArray, List.set_cons_zero, List.set_cons_succ]

          refine wpAnyH_take (i := 23) (v := undef) rfl (by kernel_rfl) (by kernel_rfl) (by kernel_rfl) (fun _ _ _ h => h) (Or.inr ⟨by rfl, rfl⟩) hS ?_
          try simp only [Act.put, List.getElem_toArray, List.getElem_cons_zero, List.getElem_cons_succ, List.setIfInBounds_toArray, List.set_cons_zero, List.set_cons_succ]

          refine wpAnyH_ready (rs := [24]) (by kernel_rfl) (by simp) ?_
          refine AllReadyH.cons rfl (fun K' hK => ?_) AllReadyH.nil
          go_simp
          refine hK.out _ _ hS (fun hS => ?_)
          clear hK K'
          try simp only [Act.put, List.getElem_toArray, List.getElem_cons_zero, List.getElem_cons_succ, List.setIfInBounds_toArray, List.set_cons_zero, List.set_cons_succ]

          refine wpAnyH_take (i := 25) (v := undef) rfl (by kernel_rfl) (by kernel_rfl) (by kernel_rfl) (fun _ _ _ h => h) (Or.inr ⟨by rfl, rfl⟩) hS ?_
          try simp only [Act.put, List.getElem_toArray, List.getElem_cons_zero, List.getElem_cons_succ, List.setIfInBounds_toArray, List.set_cons_zero, List.set_cons_succ]

          refine wpAnyH_take (i := 26) (v := ?_) rfl (by kernel_rfl) (by kernel_rfl) (by kernel_rfl) (fun _ _ _ h => h) (Or.inl ⟨by rfl, ?_⟩) hS ?_
          rotate_left 1
          · intro wq hq
            obtain ⟨q0, q1, q2, q3, q4, _⟩ := tx_cells hq.1
            go_simp; (try with_reducible rfl)
          try simp only [Act.put, List.getElem_toArray, List.getElem_cons_zero, List.getElem_cons_succ, List.setIfInBounds_toArray, List.set_cons_zero, List.set_cons_succ]

          refine wpAnyH_done (by kernel_rfl) ?_ _
          go_wp2_with fail
          go_meet
          exact ⟨false, rfl, (by show false = decide _; rw [decide_eq_false]; intro h; cases h.1), hS.2⟩

      case rest =>
        obtain ⟨c, rfl, HC, HB⟩ := hcut
        have HJ2 := Lib.hid (HJ.out.below hXl HB.out)
        clear HJ HB HTX
        obtain ⟨i0, hi0, hz0, hz1, hz2⟩ := info_parts Tryz.info36'
        have HI0 := Lib.hid hi0; have HZ0 := Lib.hid hz0; have HZ1 := Lib.hid hz1; have HZ2 := Lib.hid hz2
        have HZS := Lib.hid (show (Value.agg (RfC 0 noB (.slice none 0 0)).toArray).cells.size = 258 by simp [Value.cells, noB_l])
        clear hi0 hz0 hz1 hz2
        cases c
        · skip
          obtain ⟨ca, cl, Q, hm⟩ := HJ2.out.m
          obtain ⟨A, cap, hvl, hcap, hA⟩ := hm.pairs
          have hlw := HJ2.out.lw
          have HP := Lib.hid (pair_r 2 .cat MkK.cat row Q wc A row.length cap cl rfl hcap hm.rl hA)
          have HM := Lib.hid hm.drop.swap
          have HTXc := Lib.hid hm.tx
          clear hm hcap hA
          subst hvl
          go_wp2_with fail
          refine HP.out.mono ?_
          rintro e w3 ⟨cs, rfl, hq, hb3⟩
          have HQ := Lib.hid hq; have HB3 := Lib.hid hb3
          have HOL := Lib.hid ((own_kept HM.out.ol (Kb.of_below (fun _ => False) hb3) (fun _ _ h => h)).alloc (.cells cs.toArray 36))
          have hw3 : w.heap.size + 1 ≤ w3.heap.size := Nat.le_trans (lt_of_heap HM.out.res) hb3.size
          have HLN := Lib.hid (show cs.length = 1 * 258 by rw [hq.len])
          clear hq hb3 HP
          go_wp2_with (first | (refine bs1 rfl _ rfl cs rfl HQ.out.len ?_) | (at_builtin; refine wpList_append_lies _ rfl _ _ 25 rfl (w.heap.size + 1) 36 i0 _ 258 288 Tryz.underlying25 HI0.out HZ0.out HZ1.out HZ2.out HZS.out (by omega) va ways.length ca rfl HOL.out ⟨w3.heap.size, 0, none⟩ 1 1 cs rfl HLN.out (World.news_of_block (cs := cs.toArray) (t := 36) (fr := (0, 0)) (heap_alloc_new w3 _)) HQ.out.rf.one (by omega) (by unfold maxLen; omega) (by omega) (by simp; omega) (w3.heap.size + 1) (by simp) ?_))
          intro g cap6 w6 hown6 hgrow6 hat6 hlt6

          have HM6 := Lib.hid (HM.out.add hXl (Kb.of_below _ HB3.out) (HTXc.out.below HB3.out) HQ.out hown6 hgrow6 hat6)
          clear hown6 hgrow6 hat6 hlt6 HQ HB3 HOL HM HTXc
          obtain ⟨c0, c1, c2, c3, c4, cf⟩ := tx_cells HM6.out.tx
          have f1 := cf 1; have f4 := cf 4
          clear cf
          go_upto_region 6 with fail
          go_cut [51] (fun v wx => ∃ c2, v = .bool c2 ∧ Hid (c2 = (bad || !decide (nx s.data.toList j = 124))) ∧ Hid (Below w6.heap.size w6 wx))
          case first =>
            have HSE := Lib.hid (sees_any w6 X s j 124 d' bad gr2 HM6.out.tx hjs (by omega) (by omega))
            cases bad
            · go_wp2_with fail
              refine HSE.out.mono ?_
              rintro e w7 ⟨rfl, ht7, hb7⟩
              have HB7 := Lib.hid hb7
              clear ht7 hb7
              go_wp2_with fail
              go_meet
              exact ⟨_, rfl, rfl, HB7.out⟩
            · go_wp2_with fail
              go_meet
              exact ⟨_, rfl, rfl, Below.refl _ _⟩
          case rest =>
            obtain ⟨c2', rfl, HC2, HB7⟩ := hcut
            have HM7 := Lib.hid (HM6.out.below hXl HB7.out)
            clear HM6 HB7 c0 c1 c2 c3 c4 f1 f4
            obtain ⟨c0, c1, c2, c3, c4, cf⟩ := tx_cells HM7.out.tx
            have f1 := cf 1; have f4 := cf 4
            clear cf
            cases c2'
            · obtain ⟨rfl, h124⟩ : bad = false ∧ nx s.data.toList j = 124 := by
                have h1 := HC2.out
                cases bad
                · exact ⟨rfl, by simpa using h1⟩
                · simp at h1
              have hjl := nx_in h124 (by omega)
              obtain ⟨o1, o2, o3, o4, o5⟩ := HJ2.out.ok rfl
              subst o2
              obtain ⟨j1, hj1⟩ : ∃ j1, j1 = j + 1 := ⟨_, rfl⟩
              have p1 : IntKind.i64.wrap ((j : Int) + 1) = (j1 : Int) := by rw [hj1, IntWalk.i64_in _ (by omega)]; omega
              have hsw := HJ2.out.sw
              have hia1 := HJ2.out.ia1
              have hcz : (catR row).size ≤ 1000 * (j - ia) + 1 := by
                by_cases hr : row = []
                · rw [hr]; show 1 ≤ _; omega
                · have := catR_sz row hr
                  omega
              have HF := Lib.hid (show OrI w X s d i great (.slice (some ⟨g, 0, none⟩) (ways.length + 1) cap6) (.slice none 0 0) (wc.setCell ⟨X, 1, none⟩ (.int .i64 j1)) d j1 j1 false gr2 (ways ++ [catR row]) [] from ⟨⟨_, _, _, HM7.out.swap.txk hXl (Kb.setCell wc ⟨X, 1, none⟩ _) (HM7.out.tx.at' j1)⟩, by omega, by omega, by omega, HJ2.out.gr, by rw [szs_append, szs_cons, szs_nil, List.length_append]; show _ + 998 * (ways.length + 1) ≤ _; omega, by rw [List.length_append]; show ways.length + 1 ≤ _; omega, by simp, (fun _ => ⟨by rw [hj1]; exact o1.bar h124 hd, rfl, Nat.le_refl _, by simp [szs], by simp⟩), (fun h => by cases h)⟩)
              have hkf : s.size + 1 ≤ kO + j1 := by omega
              clear o1 hj1 HC HC2 h124 HM7 HJ2
              go_wp2_with fail
              go_roundg kO
              case measure => omega
              case rel => exact ⟨j1, gr2, ways ++ [catR row], HF.out, hkf⟩
            · skip

              have HSZ := Lib.hid HJ2.out.size
              have HEND := Lib.hid (show bad = false → j = s.size ∨ nx s.data.toList j = 41 from fun hb => by
                have h1 := HC.out
                have h2 := HC2.out
                subst hb
                have hn : nx s.data.toList j ≠ 124 := by simpa using h2
                have h3 := of_decide_eq_false h1.symm
                by_cases hlt : j < s.size
                · by_cases h41 : nx s.data.toList j = 41
                  · exact .inr h41
                  · exact absurd ⟨rfl, hlt, hn, h41⟩ h3
                · left; omega)
              obtain ⟨A, cap7, hva, hcap, hA⟩ := HM7.out.pairs
              injection hva with e1 e2 e3
              subst e1
              subst e3
              have HP3 := Lib.hid (pair_r 3 .or MkK.or (ways ++ [nest .cat .empty row]) _ wc (some ⟨g, 0, none⟩) (ways.length + 1) cap6 (ca ++ cs) (by simp) (by rw [e2]; exact hcap) HM7.out.rl hA)
              clear hcap hA e2 HC HC2
              go_wp2_with fail
              refine HP3.out.mono ?_
              rintro e w8 ⟨cs8, rfl, hq8, hb8⟩
              have HF9 := Lib.hid (show FnS w X s ((w8.alloc (.cells Tryz.zeroCells36 36)).setRow w8.heap.size cs8.toArray) d' j bad gr2 (orR (ways ++ [catR row])) cs8 w8.heap.size from HM7.out.box hXl (by rw [show orR (ways ++ [catR row]) = nest .or .empty (ways ++ [nest .cat .empty row]) from nest_ne _ _ _ _ (by simp)]; exact hq8) hb8)
              have HQ8 := Lib.hid hq8
              have HAL := Lib.hid (alloc_res w8)
              clear hq8 hb8 HP3 c0 c1 c2 c3 c4 f1 f4
              go_upto_region 8 with (refine st30o rfl rfl _ _ rfl w8.heap.size cs8 (RfC 0 noB (.slice none 0 0)) rfl rfl HAL.out (noB_l _ _) HQ8.out.len HQ8.out.rf.one ?_)
              generalize (w8.alloc (.cells Tryz.zeroCells36 36)).setRow w8.heap.size cs8.toArray = w9 at HF9 ⊢
              clear HAL HQ8 HM7
              generalize w8.heap.size = B at HF9 ⊢
              obtain ⟨c0, c1, c2, c3, c4, cf⟩ := tx_cells HF9.out.tx
              have f4 := cf 4
              clear cf
              obtain ⟨rr, hrr⟩ : ∃ rr, rr = orR (ways ++ [catR row]) := ⟨_, rfl⟩
              have hzb : rr.size ≤ 1000000 := by
                rw [hrr]
                cases bad
                · have := HSZ.out.1 rfl; omega
                · have := HSZ.out.2 rfl; omega
              have HRR := Lib.hid hrr
              rw [← hrr] at HF9
              clear hrr
              cases gr2
              · have HSI := Lib.hid (rsize_any rr.size rr (Nat.le_refl _) hzb w9 cs8 HF9.out.rf.rf)
                obtain ⟨z, hz⟩ : ∃ z, z = rr.size := ⟨_, rfl⟩
                rw [← hz] at HSI
                have HZ := Lib.hid hz
                have HIN := Lib.hid (show (Tryz.prog.info? 36).map (·.size) = some cs8.length by rw [HF9.out.rf.len]; exact Tryz.info36)
                clear hz
                go_wp2_with fail
                refine wp_load_mid 36 (.tmp 5) rfl B 0 rfl cs8 _ (row_range HF9.out.nd) Tryz.underlying36 rfl HIN.out ?_
                go_wp2_with fail
                refine HSI.out.mono ?_
                rintro e w10 ⟨rfl, hb10⟩
                have HF10 := Lib.hid (HF9.out.below hXl hb10)
                clear hb10 HF9 HSI c0 c1 c2 c3 c4 f4
                obtain ⟨c0, c1, c2, c3, c4, cf⟩ := tx_cells HF10.out.tx
                have f4 := cf 4
                clear cf
                have HF11 := Lib.hid (fun v : Bool => HF10.out.txk hXl (Kb.setCell w10 ⟨X, 4, none⟩ (.bool v)) (HF10.out.tx.great' v))
                by_cases h400 : 400 < z
                · have hzi : (400 : Int) < z := by omega
                  have HG := Lib.hid (show true = true → false = true ∨ 400 < (orR (ways ++ [catR row])).size from fun _ => .inr (by rw [← HRR.out, ← HZ.out]; exact h400))
                  have HF12 := Lib.hid (HF11.out true)
                  clear HF11
                  go_upto_region 9 with fail
                  generalize w10.setCell ⟨X, 4, none⟩ (.bool true) = w11 at HF12 ⊢
                  clear c0 c1 c2 c3 c4 f4
                  go_wp2_with (first | (refine ld30 rfl _ rfl B 0 cs8 rfl (row_range HF12.out.nd) HF12.out.rf.len ?_) | (refine st30o rfl rfl _ _ rfl w.heap.size cs8 (RfC 0 (bls fun _ => false) (.slice none 0 0)) rfl rfl HF12.out.res (rf_len _) HF12.out.rf.len HF12.out.rf.rf.one ?_))
                  refine bodyPost_ret (results_nd rfl _ _ w.heap.size cs8 (0, 0) rfl (HF12.out.fin hXl).2.2.1 HF12.out.rf.len) rfl ?_
                  exact HJ2.out.to hXl HLL.out HEND.out (B := B) (by rw [← HRR.out]; exact HF12.out) (fun _ => HG.out (by first | rfl | trivial))
                · have hzi : ¬ (400 : Int) < z := by omega
                  have hzd : decide ((400 : Int) < z) = false := decide_eq_false hzi
                  have HF12 := Lib.hid (HF11.out false)
                  clear HF11
                  go_upto_region 9 with fail
                  generalize w10.setCell ⟨X, 4, none⟩ (.bool false) = w11 at HF12 ⊢
                  clear c0 c1 c2 c3 c4 f4
                  go_wp2_with (first | (refine ld30 rfl _ rfl B 0 cs8 rfl (row_range HF12.out.nd) HF12.out.rf.len ?_) | (refine st30o rfl rfl _ _ rfl w.heap.size cs8 (RfC 0 (bls fun _ => false) (.slice none 0 0)) rfl rfl HF12.out.res (rf_len _) HF12.out.rf.len HF12.out.rf.rf.one ?_))
                  refine bodyPost_ret (results_nd rfl _ _ w.heap.size cs8 (0, 0) rfl (HF12.out.fin hXl).2.2.1 HF12.out.rf.len) rfl ?_
                  exact HJ2.out.to hXl HLL.out HEND.out (B := B) (by rw [← HRR.out]; exact HF12.out) (fun h => by cases h)
              · have HF12 := Lib.hid (HF9.out.txk hXl (Kb.setCell w9 ⟨X, 4, none⟩ (.bool true)) (HF9.out.tx.great' true))
                go_upto_region 9 with fail
                generalize w9.setCell ⟨X, 4, none⟩ (.bool true) = w11 at HF12 ⊢
                clear c0 c1 c2 c3 c4 f4 HF9
                go_wp2_with (first | (refine ld30 rfl _ rfl B 0 cs8 rfl (row_range HF12.out.nd) HF12.out.rf.len ?_) | (refine st30o rfl rfl _ _ rfl w.heap.size cs8 (RfC 0 (bls fun _ => false) (.slice none 0 0)) rfl rfl HF12.out.res (rf_len _) HF12.out.rf.len HF12.out.rf.rf.one ?_))
                refine bodyPost_ret (results_nd rfl _ _ w.heap.size cs8 (0, 0) rfl (HF12.out.fin hXl).2.2.1 HF12.out.rf.len) rfl ?_
                exact HJ2.out.to hXl HLL.out HEND.out (B := B) (by rw [← HRR.out]; exact HF12.out) (fun _ => .inl rfl)
        · skip
          obtain ⟨hbf, hlt, h124, h41⟩ := of_decide_eq_true HC.out.symm
          subst hbf
          obtain ⟨o1, o2, o3, o4, o5⟩ := HJ2.out.ok rfl
          subst o2
          obtain ⟨ca, cl, Q, hm⟩ := HJ2.out.m
          have hia1 := HJ2.out.ia1
          have hrl := HJ2.out.lr
          have hkk := HK2.out rfl
          have HCA := Lib.hid (HFAC.out j (by omega) hlt wc X gr2 d hm.tx hlt h124 h41 hd)
          have HM := Lib.hid hm
          clear o1 hm HC h124 h41
          go_wp2_with fail
          refine HCA.out.mono ?_
          rintro e w3 ⟨r, cs, gr3, rfl, hq, hk, hgr, hcase⟩
          have HQ := Lib.hid hq; have HK := Lib.hid hk; have HGR := Lib.hid hgr; have HCS := Lib.hid hcase
          have HOL := Lib.hid ((own_kept HM.out.ol hk (fun g h he => by have := (HM.out.ol.lt g h).1; omega)).alloc (.cells cs.toArray 36))
          have hw3 : w.heap.size + 1 ≤ w3.heap.size := Nat.le_trans (lt_of_heap HM.out.res) hk.size
          have HLN := Lib.hid (show cs.length = 1 * 258 by rw [hq.len])
          clear hq hk hgr hcase HCA
          go_wp2_with (first | (refine bs1 rfl _ rfl cs rfl HQ.out.len ?_) | (at_builtin; refine wpList_append_lies _ rfl _ _ 25 rfl (w.heap.size + 1) 36 i0 _ 258 288 Tryz.underlying25 HI0.out HZ0.out HZ1.out HZ2.out HZS.out (by omega) vl row.length cl rfl HOL.out ⟨w3.heap.size, 0, none⟩ 1 1 cs rfl HLN.out (World.news_of_block (cs := cs.toArray) (t := 36) (fr := (0, 0)) (heap_alloc_new w3 _)) HQ.out.rf.one (by omega) (by unfold maxLen; omega) (by omega) (by simp; omega) (w3.heap.size + 1) (by simp) ?_))
          intro g cap6 w6 hown6 hgrow6 hat6 hlt6

          have hN := HJ2.out.fac hd (w6 := w6) (v6 := .slice (some ⟨g, 0, none⟩) (row.length + 1) cap6) (r := r) HGR.out (HCS.out.imp (fun ⟨j2, hf, hj, hj2, hr, ht⟩ => ⟨j2, hf, hj, hj2, hr, _, _, _, HM.out.add hXl HK.out ht (HQ.out.mono (fun _ _ h => .inr h)) hown6 hgrow6 hat6⟩) (fun ⟨j2, d2, hj2, hr, ht, hdd⟩ => ⟨j2, d2, hj2, hr, ⟨_, _, _, HM.out.add hXl HK.out ht (HQ.out.mono (fun _ _ h => .inr h)) hown6 hgrow6 hat6⟩, hdd⟩))
          obtain ⟨d2, j2, bad2, hN1, hjj⟩ := hN
          have HN1 := Lib.hid hN1; have HJJ := Lib.hid hjj
          clear hN1 hjj hown6 hgrow6 hat6 hlt6 HCS HGR HQ HK HM HOL
          go_wp2_with fail
          go_roundg (gk - 1)
          case measure => omega
          case rel => exact ⟨d2, j2, bad2, gr3, row ++ [r], HN1.out, fun hb => by have := HJJ.out hb; omega⟩
end Go.Proofs.YtejdfpieblkapaaGreatDoor
