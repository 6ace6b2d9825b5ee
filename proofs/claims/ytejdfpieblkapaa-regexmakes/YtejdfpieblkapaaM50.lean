/- RegexMakes. -/
import Derived.Test.YtejdfpieblkapaaM49
namespace Go.Proofs.Ytejdfpieblkapaa
open Go.RowKit Go.Shelf

set_option maxRecDepth 100000 in
set_option maxHeartbeats 1000000 in
theorem makes_long (a b t : ByteArray) (w : World) (h : 30 < a.size ∨ 30 < b.size ∨ 12 < t.size) : Calls Try.prog 4 #[.string a, .string b, .string t] w (Ans (.bool true) w) := by
  by_cases h1 : 30 < a.size
  · have h1i : (30 : Int) < a.size := by omega
    go_enter Try.func4, Try.ntmps4
    go_wp2_with fail
    refine (awake_any w).mono ?_
    rintro e w1 ⟨rfl, hb⟩
    go_wp2
    go_ret
    exact ⟨rfl, hb⟩
  · have h1i : ¬ (30 : Int) < a.size := by omega
    by_cases h2 : 30 < b.size
    · have h2i : (30 : Int) < b.size := by omega
      go_enter Try.func4, Try.ntmps4
      go_wp2_with fail
      refine (awake_any w).mono ?_
      rintro e w1 ⟨rfl, hb⟩
      go_wp2
      go_ret
      exact ⟨rfl, hb⟩
    · have h2i : ¬ (30 : Int) < b.size := by omega
      have h3i : (12 : Int) < t.size := by omega
      go_enter Try.func4, Try.ntmps4
      go_wp2_with fail
      refine (awake_any w).mono ?_
      rintro e w1 ⟨rfl, hb⟩
      go_wp2
      go_ret
      exact ⟨rfl, hb⟩

theorem row_one (w : World) (a : Nat) : RowAt (w.alloc (.cells #[ptr a] 23)) (some ⟨w.heap.size, 0, none⟩) [a] := .inr ⟨w.heap.size, _, _, rfl, heap_alloc_new w _, fun i x hx => by
  rcases i with _ | i
  · have : a = x := by simpa using hx
    subst this; rfl
  · simp at hx⟩
theorem nds_one {w : World} {r : Rx} {a : Nat} (hr : NdAt w r a) : NdsAt w [r] [a] := ⟨rfl, fun i x y hx hy => by
  rcases i with _ | i
  · have e1 : r = x := by simpa using hx
    have e2 : a = y := by simpa using hy
    subst e1; subst e2; exact hr
  · simp at hx⟩
theorem mt_empty' (u : List UInt8) : Rx.empty.mt u = decide (u = []) := by
  rw [Bool.eq_iff_iff, Rx.mt_iff, decide_eq_true_iff]; exact Iff.rfl
theorem mt_none' (u : List UInt8) : Rx.none'.mt u = false := by
  rw [Bool.eq_false_iff]; intro h; exact none_L u ((Rx.mt_iff _ _).1 h)
/-- What the loop keeps. -/
def MkAt (w0 : World) (rx ry : Rx) (bx bY : Nat) (T : List UInt8) (k : Nat) (β γ : Bool) (wr : World) : Prop := β = catB rx ry T k ∧ γ = starB rx T k ∧ NdAt wr rx bx ∧ NdAt wr ry bY ∧ Below w0.heap.size w0 wr

set_option maxRecDepth 100000 in
set_option maxHeartbeats 8000000 in
theorem makes_short (a b t : ByteArray) (w : World) (h1 : a.size ≤ 30) (h2 : b.size ≤ 30) (h3 : t.size ≤ 12) : Calls Try.prog 4 #[.string a, .string b, .string t] w (Ans (.bool true) w) := by
  have h1i : ¬ (30 : Int) < a.size := by omega
  have h2i : ¬ (30 : Int) < b.size := by omega
  have h3i : ¬ (12 : Int) < t.size := by omega
  go_enter Try.func4, Try.ntmps4
  go_wp2_with fail
  refine (awake_any w).mono ?_
  rintro e w1 ⟨rfl, hb⟩
  have HB0 := Lib.hid hb
  clear hb
  go_wp2_with fail
  refine (parse_u _ w1 (by omega)).mono ?_
  rintro e w2 ⟨px, ix, cx, rfl, hb2, x1, x2⟩
  have HX1 := Lib.hid x1; have HX2 := Lib.hid x2
  have HB2 := Lib.hid hb2
  clear x1 x2 hb2
  go_wp2_with fail
  refine (parse_u _ w2 (by omega)).mono ?_
  rintro e w3 ⟨py, iy, cy, rfl, hb3, y1, y2⟩
  have HY1 := Lib.hid y1; have HY2 := Lib.hid y2
  have HB3 := Lib.hid hb3
  have HB03 := Lib.hid (below_tr (below_tr HB0.out HB2.out HB0.out.size) hb3 (Nat.le_trans HB0.out.size HB2.out.size))
  clear y1 y2 hb3
  by_cases hok : cx = 0 ∧ cy = 0
  · obtain ⟨rfl, rfl⟩ := hok
    obtain ⟨rx, bx, rfl, _, sx, nx'⟩ := HX1.out rfl
    obtain ⟨ry, bY, rfl, _, sy, ny⟩ := HY1.out rfl
    obtain ⟨T, hT⟩ : ∃ T, T = t.data.toList := ⟨_, rfl⟩
    have hTl : T.length = t.size := by rw [hT, ← Lib.size_eq]
    obtain ⟨bt, hbt⟩ : ∃ bt, bt = decide (T = []) := ⟨_, rfl⟩
    have hte : t.toList.isEmpty = bt := by rw [hbt, hT, ByteArray.toList_eq]; cases t.data.toList <;> simp
    have MX := Lib.hid (fun w' u (h : NdAt w' rx bx) (hu : u.size ≤ 12) => matches_mt w' rx bx u h (by omega) (by omega))
    have MY := Lib.hid (fun w' u (h : NdAt w' ry bY) (hu : u.size ≤ 12) => matches_mt w' ry bY u h (by omega) (by omega))
    have MS := Lib.hid (fun w' nb u (h : NdAt w' (.star rx) nb) (hu : u.size ≤ 12) => matches_mt w' (.star rx) nb u h (by show 1 + rx.size ≤ _; omega) (by omega))
    have HH := Lib.hid (And.intro (nx'.keep (KN.of_below HB3.out)) ny)
    have HT := Lib.hid hT; have HTL := Lib.hid hTl; have HBT := Lib.hid hbt
    clear nx' ny HX1 HX2 HY1 HY2 hT hTl hbt HB2 HB3 HB0
    go_wp2_with fail
    go_loopw [13, 14, 15] (fun vc vs vi wr => ∃ (k : Nat) (β γ : Bool), k ≤ t.size + 1 ∧ vi = .int .i64 k ∧ vc = .bool β ∧ vs = .bool γ ∧ Hid (MkAt w rx ry bx bY T k β γ wr)) (fun _ _ vi _ => t.size + 1 - (intOf vi).toNat)
    case atStart => exact ⟨0, false, bt, by omega, rfl, rfl, rfl, rfl, by rw [HBT.out]; unfold starB; simp, HH.out.1, HH.out.2, HB03.out⟩
    case round =>
      obtain ⟨k, β, γ, hk, rfl, rfl, rfl, HQ⟩ := hrel
      by_cases hlt : k ≤ t.size
      · have hki : (k : Int) ≤ t.size := by omega
        have hk0 : (0 : Int) ≤ (k : Int) := by omega
        obtain ⟨q1, q2, q3, q4, q5⟩ := HQ.out
        obtain ⟨α1, hα1⟩ : ∃ α1, α1 = rx.mt (T.take k) := ⟨_, rfl⟩
        obtain ⟨α2, hα2⟩ : ∃ α2, α2 = ry.mt (T.drop k) := ⟨_, rfl⟩
        obtain ⟨α3, hα3⟩ : ∃ α3, α3 = (Rx.star rx).mt (T.drop k) := ⟨_, rfl⟩
        have hz1 : (t.extract 0 k).size ≤ 12 := by rw [ByteArray.size_extract]; omega
        have hz2 : (t.extract k t.size).size ≤ 12 := by rw [ByteArray.size_extract]; omega
        have MX1 := Lib.hid (fun w' h => MX.out w' (t.extract 0 k) h hz1)
        rw [ext_take, ← HT.out, ← hα1] at MX1
        have MY1 := Lib.hid (fun w' h => MY.out w' (t.extract k t.size) h hz2)
        rw [ext_drop, ← HT.out, ← hα2] at MY1
        have MS1 := Lib.hid (fun w' nb h => MS.out w' nb (t.extract k t.size) h hz2)
        rw [ext_drop, ← HT.out, ← hα3] at MS1
        have hcs := catB_succ rx ry T k
        rw [← hα1, ← hα2, ← q1] at hcs
        have hss := starB_succ rx T k
        rw [← hα1, ← hα3, ← q2] at hss
        have HCS := Lib.hid hcs; have HSS := Lib.hid hss; have HN := Lib.hid (And.intro q3 (And.intro q4 q5))
        have HST := Lib.hid (fun w' (h : NdAt w' rx bx) => star_any rx bx w' h (by omega))
        clear q1 q2 q3 q4 q5 hα1 hα2 hα3 hz1 hz2 hcs hss HQ MX MY MS
        cases β
        · go_wp2_with fail
          refine (MX1.out wr HN.out.1).mono ?_
          rintro e w4 ⟨rfl, hb⟩
          have HN4 := Lib.hid (And.intro (HN.out.1.keep (KN.of_below hb)) (And.intro (HN.out.2.1.keep (KN.of_below hb)) (below_tr HN.out.2.2 hb HN.out.2.2.size)))
          clear hb
          cases α1
          · go_wp2_with fail
            cases γ
            · rcases Nat.eq_zero_or_pos k with hkz | hkz
              · subst hkz
                have hkd : decide ((0 : Nat) < 0) = false := by decide
                go_quiet (fail)
                go_wp2
                go_roundw
                case rel => exact ⟨1, false, false, by omega, by go_num, rfl, rfl, by rw [HCS.out]; simp, by rw [HSS.out]; simp, HN4.out.1.keep (KN.of_below (below_drewN _ w4 nq)), HN4.out.2.1.keep (KN.of_below (below_drewN _ w4 nq)), HN4.out.2.2.trans (below_drewN _ w4 nq)⟩
                case measure => simp [intOf]
              · have hkp : (0 : Int) < (k : Int) := by omega
                have HMa := Lib.hid (MX1.out w4.drew (HN4.out.1.keep (KN.of_below ((Below.refl _ w4).drew))))
                have HND := Lib.hid (And.intro (HN4.out.1.keep (KN.of_below ((Below.refl _ w4).drew))) (And.intro (HN4.out.2.1.keep (KN.of_below ((Below.refl _ w4).drew))) HN4.out.2.2.drew))
                refine wp_region_any (by kernel_rfl) ?_
                change wpAny _ _ _ _ 21 (Array.replicate 21 false) _ (World.drew _)
                refine wpAny_take (i := 0) (v := ?_) rfl (by kernel_rfl) (by kernel_rfl) (by kernel_rfl) (fun _ _ _ h => h) (Or.inl ⟨by rfl, ?_⟩) ?_
                rotate_left 1
                · intro wq; go_simp; (try with_reducible rfl)
                try simp only [Act.put, List.getElem_toArray, List.getElem_cons_zero, List.getElem_cons_succ, List.setIfInBounds_toArray, List.set_cons_zero, List.set_cons_succ]
                refine wpAny_take (i := 1) (v := ?_) rfl (by kernel_rfl) (by kernel_rfl) (by kernel_rfl) (fun _ _ _ h => h) (Or.inl ⟨by rfl, ?_⟩) ?_
                rotate_left 1
                · intro wq; go_simp; (try with_reducible rfl)
                try simp only [Act.put, List.getElem_toArray, List.getElem_cons_zero, List.getElem_cons_succ, List.setIfInBounds_toArray, List.set_cons_zero, List.set_cons_succ]
                refine wpAny_take (i := 2) (v := ?_) rfl (by kernel_rfl) (by kernel_rfl) (by kernel_rfl) (fun _ _ _ h => h) (Or.inl ⟨by rfl, ?_⟩) ?_
                rotate_left 1
                · intro wq; go_simp; (try with_reducible rfl)
                try simp only [Act.put, List.getElem_toArray, List.getElem_cons_zero, List.getElem_cons_succ, List.setIfInBounds_toArray, List.set_cons_zero, List.set_cons_succ]
                refine wpAny_take (i := 3) (v := ?_) rfl (by kernel_rfl) (by kernel_rfl) (by kernel_rfl) (fun _ _ _ h => h) (Or.inl ⟨by rfl, ?_⟩) ?_
                rotate_left 1
                · intro wq; go_simp; (try with_reducible rfl)
                try simp only [Act.put, List.getElem_toArray, List.getElem_cons_zero, List.getElem_cons_succ, List.setIfInBounds_toArray, List.set_cons_zero, List.set_cons_succ]
                refine wpAny_take (i := 4) (v := ?_) rfl (by kernel_rfl) (by kernel_rfl) (by kernel_rfl) (fun _ _ _ h => h) (Or.inl ⟨by rfl, ?_⟩) ?_
                rotate_left 1
                · intro wq; go_simp; (try with_reducible rfl)
                try simp only [Act.put, List.getElem_toArray, List.getElem_cons_zero, List.getElem_cons_succ, List.setIfInBounds_toArray, List.set_cons_zero, List.set_cons_succ]
                refine wpAny_take (i := 5) (v := ?_) rfl (by kernel_rfl) (by kernel_rfl) (by kernel_rfl) (fun _ _ _ h => h) (Or.inl ⟨by rfl, ?_⟩) ?_
                rotate_left 1
                · intro wq; go_simp; (try with_reducible rfl)
                try simp only [Act.put, List.getElem_toArray, List.getElem_cons_zero, List.getElem_cons_succ, List.setIfInBounds_toArray, List.set_cons_zero, List.set_cons_succ]
                refine wpAny_take (i := 6) (v := ?_) rfl (by kernel_rfl) (by kernel_rfl) (by kernel_rfl) (fun _ _ _ h => h) (Or.inl ⟨by rfl, ?_⟩) ?_
                rotate_left 1
                · intro wq; go_simp; (try with_reducible rfl)
                try simp only [Act.put, List.getElem_toArray, List.getElem_cons_zero, List.getElem_cons_succ, List.setIfInBounds_toArray, List.set_cons_zero, List.set_cons_succ]
                refine wpAny_take (i := 7) (v := ?_) rfl (by kernel_rfl) (by kernel_rfl) (by kernel_rfl) (fun _ _ _ h => h) (Or.inl ⟨by rfl, ?_⟩) ?_
                rotate_left 1
                · intro wq; go_simp; (try with_reducible rfl)
                try simp only [Act.put, List.getElem_toArray, List.getElem_cons_zero, List.getElem_cons_succ, List.setIfInBounds_toArray, List.set_cons_zero, List.set_cons_succ]
                refine wpAny_take (i := 8) (v := ?_) rfl (by kernel_rfl) (by kernel_rfl) (by kernel_rfl) (fun _ _ _ h => h) (Or.inl ⟨by rfl, ?_⟩) ?_
                rotate_left 1
                · intro wq; go_simp; (try with_reducible rfl)
                try simp only [Act.put, List.getElem_toArray, List.getElem_cons_zero, List.getElem_cons_succ, List.setIfInBounds_toArray, List.set_cons_zero, List.set_cons_succ]
                refine wpAny_ready (rs := [9]) (by kernel_rfl) (by simp) ?_
                refine AllReady.cons rfl (fun K hK => ?_) AllReady.nil
                go_simp
                go_at_call 10
                refine HMa.out.mono ?_; rintro e y1 ⟨rfl, g1⟩
                refine hK _ _ ?_
                clear hK K
                try simp only [Act.put, List.getElem_toArray, List.getElem_cons_zero, List.getElem_cons_succ, List.setIfInBounds_toArray, List.set_cons_zero, List.set_cons_succ]
                refine wpAny_take (i := 10) (v := ?_) rfl (by kernel_rfl) (by kernel_rfl) (by kernel_rfl) (fun _ _ _ h => h) (Or.inl ⟨by rfl, ?_⟩) ?_
                rotate_left 1
                · intro wq; go_simp; (try with_reducible rfl)
                try simp only [Act.put, List.getElem_toArray, List.getElem_cons_zero, List.getElem_cons_succ, List.setIfInBounds_toArray, List.set_cons_zero, List.set_cons_succ]
                refine wpAny_take (i := 11) (v := ?_) rfl (by kernel_rfl) (by kernel_rfl) (by kernel_rfl) (fun _ _ _ h => h) (Or.inl ⟨by rfl, ?_⟩) ?_
                rotate_left 1
                · intro wq; go_simp; (try with_reducible rfl)
                try simp only [Act.put, List.getElem_toArray, List.getElem_cons_zero, List.getElem_cons_succ, List.setIfInBounds_toArray, List.set_cons_zero, List.set_cons_succ]
                refine wpAny_take (i := 12) (v := undef) rfl (by kernel_rfl) (by kernel_rfl) (by kernel_rfl) (fun _ _ _ h => h) (Or.inr ⟨by rfl, rfl⟩) ?_
                try simp only [Act.put, List.getElem_toArray, List.getElem_cons_zero, List.getElem_cons_succ, List.setIfInBounds_toArray, List.set_cons_zero, List.set_cons_succ]
                refine wpAny_take (i := 14) (v := undef) rfl (by kernel_rfl) (by kernel_rfl) (by kernel_rfl) (fun _ _ _ h => h) (Or.inr ⟨by rfl, rfl⟩) ?_
                try simp only [Act.put, List.getElem_toArray, List.getElem_cons_zero, List.getElem_cons_succ, List.setIfInBounds_toArray, List.set_cons_zero, List.set_cons_succ]
                refine wpAny_take (i := 15) (v := undef) rfl (by kernel_rfl) (by kernel_rfl) (by kernel_rfl) (fun _ _ _ h => h) (Or.inr ⟨by rfl, rfl⟩) ?_
                try simp only [Act.put, List.getElem_toArray, List.getElem_cons_zero, List.getElem_cons_succ, List.setIfInBounds_toArray, List.set_cons_zero, List.set_cons_succ]
                refine wpAny_take (i := 16) (v := undef) rfl (by kernel_rfl) (by kernel_rfl) (by kernel_rfl) (fun _ _ _ h => h) (Or.inr ⟨by rfl, rfl⟩) ?_
                try simp only [Act.put, List.getElem_toArray, List.getElem_cons_zero, List.getElem_cons_succ, List.setIfInBounds_toArray, List.set_cons_zero, List.set_cons_succ]
                refine wpAny_ready (rs := [13]) (by kernel_rfl) (by simp) ?_
                refine AllReady.cons rfl (fun K hK => ?_) AllReady.nil
                go_simp
                refine hK _ _ ?_
                clear hK K
                try simp only [Act.put, List.getElem_toArray, List.getElem_cons_zero, List.getElem_cons_succ, List.setIfInBounds_toArray, List.set_cons_zero, List.set_cons_succ]
                refine wpAny_ready (rs := [17]) (by kernel_rfl) (by simp) ?_
                refine AllReady.cons rfl (fun K hK => ?_) AllReady.nil
                go_simp
                refine hK _ _ ?_
                clear hK K
                try simp only [Act.put, List.getElem_toArray, List.getElem_cons_zero, List.getElem_cons_succ, List.setIfInBounds_toArray, List.set_cons_zero, List.set_cons_succ]
                refine wpAny_take (i := 18) (v := ?_) rfl (by kernel_rfl) (by kernel_rfl) (by kernel_rfl) (fun _ _ _ h => h) (Or.inl ⟨by rfl, ?_⟩) ?_
                rotate_left 1
                · intro wq; go_simp; (try with_reducible rfl)
                try simp only [Act.put, List.getElem_toArray, List.getElem_cons_zero, List.getElem_cons_succ, List.setIfInBounds_toArray, List.set_cons_zero, List.set_cons_succ]
                refine wpAny_take (i := 19) (v := ?_) rfl (by kernel_rfl) (by kernel_rfl) (by kernel_rfl) (fun _ _ _ h => h) (Or.inl ⟨by rfl, ?_⟩) ?_
                rotate_left 1
                · intro wq; go_simp; (try with_reducible rfl)
                try simp only [Act.put, List.getElem_toArray, List.getElem_cons_zero, List.getElem_cons_succ, List.setIfInBounds_toArray, List.set_cons_zero, List.set_cons_succ]
                refine wpAny_take (i := 20) (v := ?_) rfl (by kernel_rfl) (by kernel_rfl) (by kernel_rfl) (fun _ _ _ h => h) (Or.inl ⟨by rfl, ?_⟩) ?_
                rotate_left 1
                · intro wq; go_simp; (try with_reducible rfl)
                try simp only [Act.put, List.getElem_toArray, List.getElem_cons_zero, List.getElem_cons_succ, List.setIfInBounds_toArray, List.set_cons_zero, List.set_cons_succ]
                refine wpAny_done (by kernel_rfl) ?_ _
                have HE := Lib.hid g1
                clear g1
                try go_wp2
                go_roundw
                case rel => exact ⟨k + 1, false, false, by omega, by go_num, rfl, rfl, by rw [HCS.out]; simp, by rw [HSS.out]; simp, HND.out.1.keep (KN.of_below HE.out), HND.out.2.1.keep (KN.of_below HE.out), below_tr HND.out.2.2 HE.out HND.out.2.2.size⟩
                case measure => simp [intOf]; omega
            · go_quiet (fail)
              go_wp2
              go_roundw
              case rel => exact ⟨k + 1, false, true, by omega, by go_num, rfl, rfl, by rw [HCS.out]; simp, by rw [HSS.out]; simp, HN4.out.1.keep (KN.of_below (below_drewN _ w4 nq)), HN4.out.2.1.keep (KN.of_below (below_drewN _ w4 nq)), HN4.out.2.2.trans (below_drewN _ w4 nq)⟩
              case measure => simp [intOf]; omega
          · go_wp2_with fail
            refine (MY1.out w4 HN4.out.2.1).mono ?_
            rintro e w5 ⟨rfl, hb⟩
            have HN5 := Lib.hid (And.intro (HN4.out.1.keep (KN.of_below hb)) (And.intro (HN4.out.2.1.keep (KN.of_below hb)) (below_tr HN4.out.2.2 hb HN4.out.2.2.size)))
            clear hb
            go_wp2_with fail
            cases γ
            · rcases Nat.eq_zero_or_pos k with hkz | hkz
              · subst hkz
                have hkd : decide ((0 : Nat) < 0) = false := by decide
                go_quiet (fail)
                go_wp2
                go_roundw
                case rel => exact ⟨1, α2, false, by omega, by go_num, rfl, rfl, by rw [HCS.out]; simp, by rw [HSS.out]; simp, HN5.out.1.keep (KN.of_below (below_drewN _ w5 nq)), HN5.out.2.1.keep (KN.of_below (below_drewN _ w5 nq)), HN5.out.2.2.trans (below_drewN _ w5 nq)⟩
                case measure => simp [intOf]
              · have hkp : (0 : Int) < (k : Int) := by omega
                have HMa := Lib.hid (MX1.out w5.drew (HN5.out.1.keep (KN.of_below ((Below.refl _ w5).drew))))
                have HND := Lib.hid (And.intro (HN5.out.1.keep (KN.of_below ((Below.refl _ w5).drew))) (And.intro (HN5.out.2.1.keep (KN.of_below ((Below.refl _ w5).drew))) HN5.out.2.2.drew))
                refine wp_region_any (by kernel_rfl) ?_
                change wpAny _ _ _ _ 21 (Array.replicate 21 false) _ (World.drew _)
                refine wpAny_take (i := 0) (v := ?_) rfl (by kernel_rfl) (by kernel_rfl) (by kernel_rfl) (fun _ _ _ h => h) (Or.inl ⟨by rfl, ?_⟩) ?_
                rotate_left 1
                · intro wq; go_simp; (try with_reducible rfl)
                try simp only [Act.put, List.getElem_toArray, List.getElem_cons_zero, List.getElem_cons_succ, List.setIfInBounds_toArray, List.set_cons_zero, List.set_cons_succ]
                refine wpAny_take (i := 1) (v := ?_) rfl (by kernel_rfl) (by kernel_rfl) (by kernel_rfl) (fun _ _ _ h => h) (Or.inl ⟨by rfl, ?_⟩) ?_
                rotate_left 1
                · intro wq; go_simp; (try with_reducible rfl)
                try simp only [Act.put, List.getElem_toArray, List.getElem_cons_zero, List.getElem_cons_succ, List.setIfInBounds_toArray, List.set_cons_zero, List.set_cons_succ]
                refine wpAny_take (i := 2) (v := ?_) rfl (by kernel_rfl) (by kernel_rfl) (by kernel_rfl) (fun _ _ _ h => h) (Or.inl ⟨by rfl, ?_⟩) ?_
                rotate_left 1
                · intro wq; go_simp; (try with_reducible rfl)
                try simp only [Act.put, List.getElem_toArray, List.getElem_cons_zero, List.getElem_cons_succ, List.setIfInBounds_toArray, List.set_cons_zero, List.set_cons_succ]
                refine wpAny_take (i := 3) (v := ?_) rfl (by kernel_rfl) (by kernel_rfl) (by kernel_rfl) (fun _ _ _ h => h) (Or.inl ⟨by rfl, ?_⟩) ?_
                rotate_left 1
                · intro wq; go_simp; (try with_reducible rfl)
                try simp only [Act.put, List.getElem_toArray, List.getElem_cons_zero, List.getElem_cons_succ, List.setIfInBounds_toArray, List.set_cons_zero, List.set_cons_succ]
                refine wpAny_take (i := 4) (v := ?_) rfl (by kernel_rfl) (by kernel_rfl) (by kernel_rfl) (fun _ _ _ h => h) (Or.inl ⟨by rfl, ?_⟩) ?_
                rotate_left 1
                · intro wq; go_simp; (try with_reducible rfl)
                try simp only [Act.put, List.getElem_toArray, List.getElem_cons_zero, List.getElem_cons_succ, List.setIfInBounds_toArray, List.set_cons_zero, List.set_cons_succ]
                refine wpAny_take (i := 5) (v := ?_) rfl (by kernel_rfl) (by kernel_rfl) (by kernel_rfl) (fun _ _ _ h => h) (Or.inl ⟨by rfl, ?_⟩) ?_
                rotate_left 1
                · intro wq; go_simp; (try with_reducible rfl)
                try simp only [Act.put, List.getElem_toArray, List.getElem_cons_zero, List.getElem_cons_succ, List.setIfInBounds_toArray, List.set_cons_zero, List.set_cons_succ]
                refine wpAny_take (i := 6) (v := ?_) rfl (by kernel_rfl) (by kernel_rfl) (by kernel_rfl) (fun _ _ _ h => h) (Or.inl ⟨by rfl, ?_⟩) ?_
                rotate_left 1
                · intro wq; go_simp; (try with_reducible rfl)
                try simp only [Act.put, List.getElem_toArray, List.getElem_cons_zero, List.getElem_cons_succ, List.setIfInBounds_toArray, List.set_cons_zero, List.set_cons_succ]
                refine wpAny_take (i := 7) (v := ?_) rfl (by kernel_rfl) (by kernel_rfl) (by kernel_rfl) (fun _ _ _ h => h) (Or.inl ⟨by rfl, ?_⟩) ?_
                rotate_left 1
                · intro wq; go_simp; (try with_reducible rfl)
                try simp only [Act.put, List.getElem_toArray, List.getElem_cons_zero, List.getElem_cons_succ, List.setIfInBounds_toArray, List.set_cons_zero, List.set_cons_succ]
                refine wpAny_take (i := 8) (v := ?_) rfl (by kernel_rfl) (by kernel_rfl) (by kernel_rfl) (fun _ _ _ h => h) (Or.inl ⟨by rfl, ?_⟩) ?_
                rotate_left 1
                · intro wq; go_simp; (try with_reducible rfl)
                try simp only [Act.put, List.getElem_toArray, List.getElem_cons_zero, List.getElem_cons_succ, List.setIfInBounds_toArray, List.set_cons_zero, List.set_cons_succ]
                refine wpAny_ready (rs := [9]) (by kernel_rfl) (by simp) ?_
                refine AllReady.cons rfl (fun K hK => ?_) AllReady.nil
                go_simp
                go_at_call 10
                refine HMa.out.mono ?_; rintro e y1 ⟨rfl, g1⟩; have HG1 := Lib.hid g1; clear g1
                refine hK _ _ ?_
                clear hK K
                try simp only [Act.put, List.getElem_toArray, List.getElem_cons_zero, List.getElem_cons_succ, List.setIfInBounds_toArray, List.set_cons_zero, List.set_cons_succ]
                refine wpAny_take (i := 10) (v := ?_) rfl (by kernel_rfl) (by kernel_rfl) (by kernel_rfl) (fun _ _ _ h => h) (Or.inl ⟨by rfl, ?_⟩) ?_
                rotate_left 1
                · intro wq; go_simp; (try with_reducible rfl)
                try simp only [Act.put, List.getElem_toArray, List.getElem_cons_zero, List.getElem_cons_succ, List.setIfInBounds_toArray, List.set_cons_zero, List.set_cons_succ]
                refine wpAny_take (i := 11) (v := ?_) rfl (by kernel_rfl) (by kernel_rfl) (by kernel_rfl) (fun _ _ _ h => h) (Or.inl ⟨by rfl, ?_⟩) ?_
                rotate_left 1
                · intro wq; go_simp; (try with_reducible rfl)
                try simp only [Act.put, List.getElem_toArray, List.getElem_cons_zero, List.getElem_cons_succ, List.setIfInBounds_toArray, List.set_cons_zero, List.set_cons_succ]
                refine wpAny_take (i := 12) (v := ?_) rfl (by kernel_rfl) (by kernel_rfl) (by kernel_rfl) (fun _ _ _ h => h) (Or.inl ⟨by rfl, ?_⟩) ?_
                rotate_left 1
                · intro wq; go_simp; (try with_reducible rfl)
                try simp only [Act.put, List.getElem_toArray, List.getElem_cons_zero, List.getElem_cons_succ, List.setIfInBounds_toArray, List.set_cons_zero, List.set_cons_succ]
                refine wpAny_take (i := 14) (v := ?_) rfl (by kernel_rfl) (by kernel_rfl) (by kernel_rfl) (fun _ _ _ h => h) (Or.inl ⟨by rfl, ?_⟩) ?_
                rotate_left 1
                · intro wq; go_simp; (try with_reducible rfl)
                try simp only [Act.put, List.getElem_toArray, List.getElem_cons_zero, List.getElem_cons_succ, List.setIfInBounds_toArray, List.set_cons_zero, List.set_cons_succ]
                refine wpAny_take (i := 15) (v := ?_) rfl (by kernel_rfl) (by kernel_rfl) (by kernel_rfl) (fun _ _ _ h => h) (Or.inl ⟨by rfl, ?_⟩) ?_
                rotate_left 1
                · intro wq; go_simp; (try with_reducible rfl)
                try simp only [Act.put, List.getElem_toArray, List.getElem_cons_zero, List.getElem_cons_succ, List.setIfInBounds_toArray, List.set_cons_zero, List.set_cons_succ]
                refine wpAny_take (i := 16) (v := ?_) rfl (by kernel_rfl) (by kernel_rfl) (by kernel_rfl) (fun _ _ _ h => h) (Or.inl ⟨by rfl, ?_⟩) ?_
                rotate_left 1
                · intro wq; go_simp; (try with_reducible rfl)
                try simp only [Act.put, List.getElem_toArray, List.getElem_cons_zero, List.getElem_cons_succ, List.setIfInBounds_toArray, List.set_cons_zero, List.set_cons_succ]
                refine wpAny_ready (rs := [13]) (by kernel_rfl) (by simp) ?_
                refine AllReady.cons rfl (fun K hK => ?_) AllReady.nil
                go_simp
                go_at_call 15
                refine (HST.out y1 (HND.out.1.keep (KN.of_below HG1.out))).mono ?_; rintro e y2 ⟨nb, rfl, g2, g3⟩; have HG2 := Lib.hid (And.intro g2 g3); clear g2 g3
                refine hK _ _ ?_
                clear hK K
                try simp only [Act.put, List.getElem_toArray, List.getElem_cons_zero, List.getElem_cons_succ, List.setIfInBounds_toArray, List.set_cons_zero, List.set_cons_succ]
                refine wpAny_ready (rs := [17]) (by kernel_rfl) (by simp) ?_
                refine AllReady.cons rfl (fun K hK => ?_) AllReady.nil
                go_simp
                go_at_call 10
                refine (MS1.out y2 nb HG2.out.1).mono ?_; rintro e y3 ⟨rfl, g4⟩; have HG3 := Lib.hid g4; clear g4
                refine hK _ _ ?_
                clear hK K
                try simp only [Act.put, List.getElem_toArray, List.getElem_cons_zero, List.getElem_cons_succ, List.setIfInBounds_toArray, List.set_cons_zero, List.set_cons_succ]
                refine wpAny_take (i := 18) (v := ?_) rfl (by kernel_rfl) (by kernel_rfl) (by kernel_rfl) (fun _ _ _ h => h) (Or.inl ⟨by rfl, ?_⟩) ?_
                rotate_left 1
                · intro wq; go_simp; (try with_reducible rfl)
                try simp only [Act.put, List.getElem_toArray, List.getElem_cons_zero, List.getElem_cons_succ, List.setIfInBounds_toArray, List.set_cons_zero, List.set_cons_succ]
                refine wpAny_take (i := 19) (v := ?_) rfl (by kernel_rfl) (by kernel_rfl) (by kernel_rfl) (fun _ _ _ h => h) (Or.inl ⟨by rfl, ?_⟩) ?_
                rotate_left 1
                · intro wq; go_simp; (try with_reducible rfl)
                try simp only [Act.put, List.getElem_toArray, List.getElem_cons_zero, List.getElem_cons_succ, List.setIfInBounds_toArray, List.set_cons_zero, List.set_cons_succ]
                refine wpAny_take (i := 20) (v := ?_) rfl (by kernel_rfl) (by kernel_rfl) (by kernel_rfl) (fun _ _ _ h => h) (Or.inl ⟨by rfl, ?_⟩) ?_
                rotate_left 1
                · intro wq; go_simp; (try with_reducible rfl)
                try simp only [Act.put, List.getElem_toArray, List.getElem_cons_zero, List.getElem_cons_succ, List.setIfInBounds_toArray, List.set_cons_zero, List.set_cons_succ]
                refine wpAny_done (by kernel_rfl) ?_ _
                have HE := Lib.hid (below_tr (below_tr HG1.out HG2.out.2 HG1.out.size) HG3.out (Nat.le_trans HG1.out.size HG2.out.2.size))
                try go_wp2
                go_roundw
                case rel => exact ⟨k + 1, α2, α3, by omega, by go_num, rfl, rfl, by rw [HCS.out]; simp, by rw [HSS.out]; simp [hkz], HND.out.1.keep (KN.of_below HE.out), HND.out.2.1.keep (KN.of_below HE.out), below_tr HND.out.2.2 HE.out HND.out.2.2.size⟩
                case measure => simp [intOf]; omega
            · go_quiet (fail)
              go_wp2
              go_roundw
              case rel => exact ⟨k + 1, α2, true, by omega, by go_num, rfl, rfl, by rw [HCS.out]; simp, by rw [HSS.out]; simp, HN5.out.1.keep (KN.of_below (below_drewN _ w5 nq)), HN5.out.2.1.keep (KN.of_below (below_drewN _ w5 nq)), HN5.out.2.2.trans (below_drewN _ w5 nq)⟩
              case measure => simp [intOf]; omega
        · go_wp2_with fail
          cases γ
          · rcases Nat.eq_zero_or_pos k with hkz | hkz
            · subst hkz
              have hkd : decide ((0 : Nat) < 0) = false := by decide
              go_quiet (fail)
              go_wp2
              go_roundw
              case rel => exact ⟨1, true, false, by omega, by go_num, rfl, rfl, by rw [HCS.out]; simp, by rw [HSS.out]; simp, HN.out.1.keep (KN.of_below (below_drewN _ wr nq)), HN.out.2.1.keep (KN.of_below (below_drewN _ wr nq)), HN.out.2.2.trans (below_drewN _ wr nq)⟩
              case measure => simp [intOf]
            · have hkp : (0 : Int) < (k : Int) := by omega
              have HMa := Lib.hid (MX1.out wr.drew (HN.out.1.keep (KN.of_below ((Below.refl _ wr).drew))))
              have HND := Lib.hid (And.intro (HN.out.1.keep (KN.of_below ((Below.refl _ wr).drew))) (And.intro (HN.out.2.1.keep (KN.of_below ((Below.refl _ wr).drew))) HN.out.2.2.drew))
              cases α1
              · skip
                refine wp_region_any (by kernel_rfl) ?_
                change wpAny _ _ _ _ 21 (Array.replicate 21 false) _ (World.drew _)
                refine wpAny_take (i := 0) (v := ?_) rfl (by kernel_rfl) (by kernel_rfl) (by kernel_rfl) (fun _ _ _ h => h) (Or.inl ⟨by rfl, ?_⟩) ?_
                rotate_left 1
                · intro wq; go_simp; (try with_reducible rfl)
                try simp only [Act.put, List.getElem_toArray, List.getElem_cons_zero, List.getElem_cons_succ, List.setIfInBounds_toArray, List.set_cons_zero, List.set_cons_succ]
                refine wpAny_take (i := 1) (v := ?_) rfl (by kernel_rfl) (by kernel_rfl) (by kernel_rfl) (fun _ _ _ h => h) (Or.inl ⟨by rfl, ?_⟩) ?_
                rotate_left 1
                · intro wq; go_simp; (try with_reducible rfl)
                try simp only [Act.put, List.getElem_toArray, List.getElem_cons_zero, List.getElem_cons_succ, List.setIfInBounds_toArray, List.set_cons_zero, List.set_cons_succ]
                refine wpAny_take (i := 2) (v := ?_) rfl (by kernel_rfl) (by kernel_rfl) (by kernel_rfl) (fun _ _ _ h => h) (Or.inl ⟨by rfl, ?_⟩) ?_
                rotate_left 1
                · intro wq; go_simp; (try with_reducible rfl)
                try simp only [Act.put, List.getElem_toArray, List.getElem_cons_zero, List.getElem_cons_succ, List.setIfInBounds_toArray, List.set_cons_zero, List.set_cons_succ]
                refine wpAny_take (i := 3) (v := ?_) rfl (by kernel_rfl) (by kernel_rfl) (by kernel_rfl) (fun _ _ _ h => h) (Or.inl ⟨by rfl, ?_⟩) ?_
                rotate_left 1
                · intro wq; go_simp; (try with_reducible rfl)
                try simp only [Act.put, List.getElem_toArray, List.getElem_cons_zero, List.getElem_cons_succ, List.setIfInBounds_toArray, List.set_cons_zero, List.set_cons_succ]
                refine wpAny_take (i := 4) (v := ?_) rfl (by kernel_rfl) (by kernel_rfl) (by kernel_rfl) (fun _ _ _ h => h) (Or.inl ⟨by rfl, ?_⟩) ?_
                rotate_left 1
                · intro wq; go_simp; (try with_reducible rfl)
                try simp only [Act.put, List.getElem_toArray, List.getElem_cons_zero, List.getElem_cons_succ, List.setIfInBounds_toArray, List.set_cons_zero, List.set_cons_succ]
                refine wpAny_take (i := 5) (v := ?_) rfl (by kernel_rfl) (by kernel_rfl) (by kernel_rfl) (fun _ _ _ h => h) (Or.inl ⟨by rfl, ?_⟩) ?_
                rotate_left 1
                · intro wq; go_simp; (try with_reducible rfl)
                try simp only [Act.put, List.getElem_toArray, List.getElem_cons_zero, List.getElem_cons_succ, List.setIfInBounds_toArray, List.set_cons_zero, List.set_cons_succ]
                refine wpAny_take (i := 6) (v := ?_) rfl (by kernel_rfl) (by kernel_rfl) (by kernel_rfl) (fun _ _ _ h => h) (Or.inl ⟨by rfl, ?_⟩) ?_
                rotate_left 1
                · intro wq; go_simp; (try with_reducible rfl)
                try simp only [Act.put, List.getElem_toArray, List.getElem_cons_zero, List.getElem_cons_succ, List.setIfInBounds_toArray, List.set_cons_zero, List.set_cons_succ]
                refine wpAny_take (i := 7) (v := ?_) rfl (by kernel_rfl) (by kernel_rfl) (by kernel_rfl) (fun _ _ _ h => h) (Or.inl ⟨by rfl, ?_⟩) ?_
                rotate_left 1
                · intro wq; go_simp; (try with_reducible rfl)
                try simp only [Act.put, List.getElem_toArray, List.getElem_cons_zero, List.getElem_cons_succ, List.setIfInBounds_toArray, List.set_cons_zero, List.set_cons_succ]
                refine wpAny_take (i := 8) (v := ?_) rfl (by kernel_rfl) (by kernel_rfl) (by kernel_rfl) (fun _ _ _ h => h) (Or.inl ⟨by rfl, ?_⟩) ?_
                rotate_left 1
                · intro wq; go_simp; (try with_reducible rfl)
                try simp only [Act.put, List.getElem_toArray, List.getElem_cons_zero, List.getElem_cons_succ, List.setIfInBounds_toArray, List.set_cons_zero, List.set_cons_succ]
                refine wpAny_ready (rs := [9]) (by kernel_rfl) (by simp) ?_
                refine AllReady.cons rfl (fun K hK => ?_) AllReady.nil
                go_simp
                go_at_call 10
                refine HMa.out.mono ?_; rintro e y1 ⟨rfl, g1⟩
                refine hK _ _ ?_
                clear hK K
                try simp only [Act.put, List.getElem_toArray, List.getElem_cons_zero, List.getElem_cons_succ, List.setIfInBounds_toArray, List.set_cons_zero, List.set_cons_succ]
                refine wpAny_take (i := 10) (v := ?_) rfl (by kernel_rfl) (by kernel_rfl) (by kernel_rfl) (fun _ _ _ h => h) (Or.inl ⟨by rfl, ?_⟩) ?_
                rotate_left 1
                · intro wq; go_simp; (try with_reducible rfl)
                try simp only [Act.put, List.getElem_toArray, List.getElem_cons_zero, List.getElem_cons_succ, List.setIfInBounds_toArray, List.set_cons_zero, List.set_cons_succ]
                refine wpAny_take (i := 11) (v := ?_) rfl (by kernel_rfl) (by kernel_rfl) (by kernel_rfl) (fun _ _ _ h => h) (Or.inl ⟨by rfl, ?_⟩) ?_
                rotate_left 1
                · intro wq; go_simp; (try with_reducible rfl)
                try simp only [Act.put, List.getElem_toArray, List.getElem_cons_zero, List.getElem_cons_succ, List.setIfInBounds_toArray, List.set_cons_zero, List.set_cons_succ]
                refine wpAny_take (i := 12) (v := undef) rfl (by kernel_rfl) (by kernel_rfl) (by kernel_rfl) (fun _ _ _ h => h) (Or.inr ⟨by rfl, rfl⟩) ?_
                try simp only [Act.put, List.getElem_toArray, List.getElem_cons_zero, List.getElem_cons_succ, List.setIfInBounds_toArray, List.set_cons_zero, List.set_cons_succ]
                refine wpAny_take (i := 14) (v := undef) rfl (by kernel_rfl) (by kernel_rfl) (by kernel_rfl) (fun _ _ _ h => h) (Or.inr ⟨by rfl, rfl⟩) ?_
                try simp only [Act.put, List.getElem_toArray, List.getElem_cons_zero, List.getElem_cons_succ, List.setIfInBounds_toArray, List.set_cons_zero, List.set_cons_succ]
                refine wpAny_take (i := 15) (v := undef) rfl (by kernel_rfl) (by kernel_rfl) (by kernel_rfl) (fun _ _ _ h => h) (Or.inr ⟨by rfl, rfl⟩) ?_
                try simp only [Act.put, List.getElem_toArray, List.getElem_cons_zero, List.getElem_cons_succ, List.setIfInBounds_toArray, List.set_cons_zero, List.set_cons_succ]
                refine wpAny_take (i := 16) (v := undef) rfl (by kernel_rfl) (by kernel_rfl) (by kernel_rfl) (fun _ _ _ h => h) (Or.inr ⟨by rfl, rfl⟩) ?_
                try simp only [Act.put, List.getElem_toArray, List.getElem_cons_zero, List.getElem_cons_succ, List.setIfInBounds_toArray, List.set_cons_zero, List.set_cons_succ]
                refine wpAny_ready (rs := [13]) (by kernel_rfl) (by simp) ?_
                refine AllReady.cons rfl (fun K hK => ?_) AllReady.nil
                go_simp
                refine hK _ _ ?_
                clear hK K
                try simp only [Act.put, List.getElem_toArray, List.getElem_cons_zero, List.getElem_cons_succ, List.setIfInBounds_toArray, List.set_cons_zero, List.set_cons_succ]
                refine wpAny_ready (rs := [17]) (by kernel_rfl) (by simp) ?_
                refine AllReady.cons rfl (fun K hK => ?_) AllReady.nil
                go_simp
                refine hK _ _ ?_
                clear hK K
                try simp only [Act.put, List.getElem_toArray, List.getElem_cons_zero, List.getElem_cons_succ, List.setIfInBounds_toArray, List.set_cons_zero, List.set_cons_succ]
                refine wpAny_take (i := 18) (v := ?_) rfl (by kernel_rfl) (by kernel_rfl) (by kernel_rfl) (fun _ _ _ h => h) (Or.inl ⟨by rfl, ?_⟩) ?_
                rotate_left 1
                · intro wq; go_simp; (try with_reducible rfl)
                try simp only [Act.put, List.getElem_toArray, List.getElem_cons_zero, List.getElem_cons_succ, List.setIfInBounds_toArray, List.set_cons_zero, List.set_cons_succ]
                refine wpAny_take (i := 19) (v := ?_) rfl (by kernel_rfl) (by kernel_rfl) (by kernel_rfl) (fun _ _ _ h => h) (Or.inl ⟨by rfl, ?_⟩) ?_
                rotate_left 1
                · intro wq; go_simp; (try with_reducible rfl)
                try simp only [Act.put, List.getElem_toArray, List.getElem_cons_zero, List.getElem_cons_succ, List.setIfInBounds_toArray, List.set_cons_zero, List.set_cons_succ]
                refine wpAny_take (i := 20) (v := ?_) rfl (by kernel_rfl) (by kernel_rfl) (by kernel_rfl) (fun _ _ _ h => h) (Or.inl ⟨by rfl, ?_⟩) ?_
                rotate_left 1
                · intro wq; go_simp; (try with_reducible rfl)
                try simp only [Act.put, List.getElem_toArray, List.getElem_cons_zero, List.getElem_cons_succ, List.setIfInBounds_toArray, List.set_cons_zero, List.set_cons_succ]
                refine wpAny_done (by kernel_rfl) ?_ _
                have HE := Lib.hid g1
                clear g1
                try go_wp2
                go_roundw
                case rel => exact ⟨k + 1, true, false, by omega, by go_num, rfl, rfl, by rw [HCS.out]; simp, by rw [HSS.out]; simp, HND.out.1.keep (KN.of_below HE.out), HND.out.2.1.keep (KN.of_below HE.out), below_tr HND.out.2.2 HE.out HND.out.2.2.size⟩
                case measure => simp [intOf]; omega
              · skip
                refine wp_region_any (by kernel_rfl) ?_
                change wpAny _ _ _ _ 21 (Array.replicate 21 false) _ (World.drew _)
                refine wpAny_take (i := 0) (v := ?_) rfl (by kernel_rfl) (by kernel_rfl) (by kernel_rfl) (fun _ _ _ h => h) (Or.inl ⟨by rfl, ?_⟩) ?_
                rotate_left 1
                · intro wq; go_simp; (try with_reducible rfl)
                try simp only [Act.put, List.getElem_toArray, List.getElem_cons_zero, List.getElem_cons_succ, List.setIfInBounds_toArray, List.set_cons_zero, List.set_cons_succ]
                refine wpAny_take (i := 1) (v := ?_) rfl (by kernel_rfl) (by kernel_rfl) (by kernel_rfl) (fun _ _ _ h => h) (Or.inl ⟨by rfl, ?_⟩) ?_
                rotate_left 1
                · intro wq; go_simp; (try with_reducible rfl)
                try simp only [Act.put, List.getElem_toArray, List.getElem_cons_zero, List.getElem_cons_succ, List.setIfInBounds_toArray, List.set_cons_zero, List.set_cons_succ]
                refine wpAny_take (i := 2) (v := ?_) rfl (by kernel_rfl) (by kernel_rfl) (by kernel_rfl) (fun _ _ _ h => h) (Or.inl ⟨by rfl, ?_⟩) ?_
                rotate_left 1
                · intro wq; go_simp; (try with_reducible rfl)
                try simp only [Act.put, List.getElem_toArray, List.getElem_cons_zero, List.getElem_cons_succ, List.setIfInBounds_toArray, List.set_cons_zero, List.set_cons_succ]
                refine wpAny_take (i := 3) (v := ?_) rfl (by kernel_rfl) (by kernel_rfl) (by kernel_rfl) (fun _ _ _ h => h) (Or.inl ⟨by rfl, ?_⟩) ?_
                rotate_left 1
                · intro wq; go_simp; (try with_reducible rfl)
                try simp only [Act.put, List.getElem_toArray, List.getElem_cons_zero, List.getElem_cons_succ, List.setIfInBounds_toArray, List.set_cons_zero, List.set_cons_succ]
                refine wpAny_take (i := 4) (v := ?_) rfl (by kernel_rfl) (by kernel_rfl) (by kernel_rfl) (fun _ _ _ h => h) (Or.inl ⟨by rfl, ?_⟩) ?_
                rotate_left 1
                · intro wq; go_simp; (try with_reducible rfl)
                try simp only [Act.put, List.getElem_toArray, List.getElem_cons_zero, List.getElem_cons_succ, List.setIfInBounds_toArray, List.set_cons_zero, List.set_cons_succ]
                refine wpAny_take (i := 5) (v := ?_) rfl (by kernel_rfl) (by kernel_rfl) (by kernel_rfl) (fun _ _ _ h => h) (Or.inl ⟨by rfl, ?_⟩) ?_
                rotate_left 1
                · intro wq; go_simp; (try with_reducible rfl)
                try simp only [Act.put, List.getElem_toArray, List.getElem_cons_zero, List.getElem_cons_succ, List.setIfInBounds_toArray, List.set_cons_zero, List.set_cons_succ]
                refine wpAny_take (i := 6) (v := ?_) rfl (by kernel_rfl) (by kernel_rfl) (by kernel_rfl) (fun _ _ _ h => h) (Or.inl ⟨by rfl, ?_⟩) ?_
                rotate_left 1
                · intro wq; go_simp; (try with_reducible rfl)
                try simp only [Act.put, List.getElem_toArray, List.getElem_cons_zero, List.getElem_cons_succ, List.setIfInBounds_toArray, List.set_cons_zero, List.set_cons_succ]
                refine wpAny_take (i := 7) (v := ?_) rfl (by kernel_rfl) (by kernel_rfl) (by kernel_rfl) (fun _ _ _ h => h) (Or.inl ⟨by rfl, ?_⟩) ?_
                rotate_left 1
                · intro wq; go_simp; (try with_reducible rfl)
                try simp only [Act.put, List.getElem_toArray, List.getElem_cons_zero, List.getElem_cons_succ, List.setIfInBounds_toArray, List.set_cons_zero, List.set_cons_succ]
                refine wpAny_take (i := 8) (v := ?_) rfl (by kernel_rfl) (by kernel_rfl) (by kernel_rfl) (fun _ _ _ h => h) (Or.inl ⟨by rfl, ?_⟩) ?_
                rotate_left 1
                · intro wq; go_simp; (try with_reducible rfl)
                try simp only [Act.put, List.getElem_toArray, List.getElem_cons_zero, List.getElem_cons_succ, List.setIfInBounds_toArray, List.set_cons_zero, List.set_cons_succ]
                refine wpAny_ready (rs := [9]) (by kernel_rfl) (by simp) ?_
                refine AllReady.cons rfl (fun K hK => ?_) AllReady.nil
                go_simp
                go_at_call 10
                refine HMa.out.mono ?_; rintro e y1 ⟨rfl, g1⟩; have HG1 := Lib.hid g1; clear g1
                refine hK _ _ ?_
                clear hK K
                try simp only [Act.put, List.getElem_toArray, List.getElem_cons_zero, List.getElem_cons_succ, List.setIfInBounds_toArray, List.set_cons_zero, List.set_cons_succ]
                refine wpAny_take (i := 10) (v := ?_) rfl (by kernel_rfl) (by kernel_rfl) (by kernel_rfl) (fun _ _ _ h => h) (Or.inl ⟨by rfl, ?_⟩) ?_
                rotate_left 1
                · intro wq; go_simp; (try with_reducible rfl)
                try simp only [Act.put, List.getElem_toArray, List.getElem_cons_zero, List.getElem_cons_succ, List.setIfInBounds_toArray, List.set_cons_zero, List.set_cons_succ]
                refine wpAny_take (i := 11) (v := ?_) rfl (by kernel_rfl) (by kernel_rfl) (by kernel_rfl) (fun _ _ _ h => h) (Or.inl ⟨by rfl, ?_⟩) ?_
                rotate_left 1
                · intro wq; go_simp; (try with_reducible rfl)
                try simp only [Act.put, List.getElem_toArray, List.getElem_cons_zero, List.getElem_cons_succ, List.setIfInBounds_toArray, List.set_cons_zero, List.set_cons_succ]
                refine wpAny_take (i := 12) (v := ?_) rfl (by kernel_rfl) (by kernel_rfl) (by kernel_rfl) (fun _ _ _ h => h) (Or.inl ⟨by rfl, ?_⟩) ?_
                rotate_left 1
                · intro wq; go_simp; (try with_reducible rfl)
                try simp only [Act.put, List.getElem_toArray, List.getElem_cons_zero, List.getElem_cons_succ, List.setIfInBounds_toArray, List.set_cons_zero, List.set_cons_succ]
                refine wpAny_take (i := 14) (v := ?_) rfl (by kernel_rfl) (by kernel_rfl) (by kernel_rfl) (fun _ _ _ h => h) (Or.inl ⟨by rfl, ?_⟩) ?_
                rotate_left 1
                · intro wq; go_simp; (try with_reducible rfl)
                try simp only [Act.put, List.getElem_toArray, List.getElem_cons_zero, List.getElem_cons_succ, List.setIfInBounds_toArray, List.set_cons_zero, List.set_cons_succ]
                refine wpAny_take (i := 15) (v := ?_) rfl (by kernel_rfl) (by kernel_rfl) (by kernel_rfl) (fun _ _ _ h => h) (Or.inl ⟨by rfl, ?_⟩) ?_
                rotate_left 1
                · intro wq; go_simp; (try with_reducible rfl)
                try simp only [Act.put, List.getElem_toArray, List.getElem_cons_zero, List.getElem_cons_succ, List.setIfInBounds_toArray, List.set_cons_zero, List.set_cons_succ]
                refine wpAny_take (i := 16) (v := ?_) rfl (by kernel_rfl) (by kernel_rfl) (by kernel_rfl) (fun _ _ _ h => h) (Or.inl ⟨by rfl, ?_⟩) ?_
                rotate_left 1
                · intro wq; go_simp; (try with_reducible rfl)
                try simp only [Act.put, List.getElem_toArray, List.getElem_cons_zero, List.getElem_cons_succ, List.setIfInBounds_toArray, List.set_cons_zero, List.set_cons_succ]
                refine wpAny_ready (rs := [13]) (by kernel_rfl) (by simp) ?_
                refine AllReady.cons rfl (fun K hK => ?_) AllReady.nil
                go_simp
                go_at_call 15
                refine (HST.out y1 (HND.out.1.keep (KN.of_below HG1.out))).mono ?_; rintro e y2 ⟨nb, rfl, g2, g3⟩; have HG2 := Lib.hid (And.intro g2 g3); clear g2 g3
                refine hK _ _ ?_
                clear hK K
                try simp only [Act.put, List.getElem_toArray, List.getElem_cons_zero, List.getElem_cons_succ, List.setIfInBounds_toArray, List.set_cons_zero, List.set_cons_succ]
                refine wpAny_ready (rs := [17]) (by kernel_rfl) (by simp) ?_
                refine AllReady.cons rfl (fun K hK => ?_) AllReady.nil
                go_simp
                go_at_call 10
                refine (MS1.out y2 nb HG2.out.1).mono ?_; rintro e y3 ⟨rfl, g4⟩; have HG3 := Lib.hid g4; clear g4
                refine hK _ _ ?_
                clear hK K
                try simp only [Act.put, List.getElem_toArray, List.getElem_cons_zero, List.getElem_cons_succ, List.setIfInBounds_toArray, List.set_cons_zero, List.set_cons_succ]
                refine wpAny_take (i := 18) (v := ?_) rfl (by kernel_rfl) (by kernel_rfl) (by kernel_rfl) (fun _ _ _ h => h) (Or.inl ⟨by rfl, ?_⟩) ?_
                rotate_left 1
                · intro wq; go_simp; (try with_reducible rfl)
                try simp only [Act.put, List.getElem_toArray, List.getElem_cons_zero, List.getElem_cons_succ, List.setIfInBounds_toArray, List.set_cons_zero, List.set_cons_succ]
                refine wpAny_take (i := 19) (v := ?_) rfl (by kernel_rfl) (by kernel_rfl) (by kernel_rfl) (fun _ _ _ h => h) (Or.inl ⟨by rfl, ?_⟩) ?_
                rotate_left 1
                · intro wq; go_simp; (try with_reducible rfl)
                try simp only [Act.put, List.getElem_toArray, List.getElem_cons_zero, List.getElem_cons_succ, List.setIfInBounds_toArray, List.set_cons_zero, List.set_cons_succ]
                refine wpAny_take (i := 20) (v := ?_) rfl (by kernel_rfl) (by kernel_rfl) (by kernel_rfl) (fun _ _ _ h => h) (Or.inl ⟨by rfl, ?_⟩) ?_
                rotate_left 1
                · intro wq; go_simp; (try with_reducible rfl)
                try simp only [Act.put, List.getElem_toArray, List.getElem_cons_zero, List.getElem_cons_succ, List.setIfInBounds_toArray, List.set_cons_zero, List.set_cons_succ]
                refine wpAny_done (by kernel_rfl) ?_ _
                have HE := Lib.hid (below_tr (below_tr HG1.out HG2.out.2 HG1.out.size) HG3.out (Nat.le_trans HG1.out.size HG2.out.2.size))
                try go_wp2
                go_roundw
                case rel => exact ⟨k + 1, true, α3, by omega, by go_num, rfl, rfl, by rw [HCS.out]; simp, by rw [HSS.out]; simp [hkz], HND.out.1.keep (KN.of_below HE.out), HND.out.2.1.keep (KN.of_below HE.out), below_tr HND.out.2.2 HE.out HND.out.2.2.size⟩
                case measure => simp [intOf]; omega
          · go_quiet (fail)
            go_wp2
            go_roundw
            case rel => exact ⟨k + 1, true, true, by omega, by go_num, rfl, rfl, by rw [HCS.out]; simp, by rw [HSS.out]; simp, HN.out.1.keep (KN.of_below (below_drewN _ wr nq)), HN.out.2.1.keep (KN.of_below (below_drewN _ wr nq)), HN.out.2.2.trans (below_drewN _ wr nq)⟩
            case measure => simp [intOf]; omega
      · obtain rfl : k = t.size + 1 := by omega
        have hki : ¬ ((t.size + 1 : Nat) : Int) ≤ t.size := by omega
        obtain ⟨q1, q2, q3, q4, q5⟩ := HQ.out
        rw [← HTL.out, catB_all] at q1
        rw [← HTL.out, starB_all] at q2
        obtain ⟨α, hα⟩ : ∃ α, α = rx.mt T := ⟨_, rfl⟩
        obtain ⟨δ, hδ⟩ : ∃ δ, δ = ry.mt T := ⟨_, rfl⟩
        have MX1 := Lib.hid (fun w' h => MX.out w' t h h3)
        rw [← HT.out, ← hα] at MX1
        have MY1 := Lib.hid (fun w' h => MY.out w' t h h3)
        rw [← HT.out, ← hδ] at MY1
        have MX2 := Lib.hid (fun w' nb (h : NdAt w' rx nb) => matches_mt w' rx nb t h (by omega) (by omega))
        rw [← HT.out, ← hα] at MX2
        have MS1 := Lib.hid (fun w' nb h => MS.out w' nb t h h3)
        rw [← HT.out, ← q2] at MS1
        have MC1 := Lib.hid (fun w' nb h => matches_mt w' (.cat rx ry) nb t h (by show 1 + rx.size + ry.size ≤ _; omega) (by omega))
        rw [← HT.out, ← q1] at MC1
        have MO1 := Lib.hid (fun w' nb h => matches_mt w' (.or rx ry) nb t h (by show 1 + rx.size + ry.size ≤ _; omega) (by omega))
        rw [← HT.out, mt_or, ← hα, ← hδ] at MO1
        have ME1 := Lib.hid (fun w' nb h => matches_mt w' .empty nb t h (by decide) (by omega))
        rw [← HT.out, mt_empty', ← HBT.out] at ME1
        have MN1 := Lib.hid (fun w' nb h => matches_mt w' Rx.none' nb t h (by decide) (by omega))
        rw [mt_none'] at MN1
        have HN := Lib.hid (And.intro q3 q4); have HQ5 := Lib.hid q5
        clear q1 q2 q3 q4 q5 hα hδ HQ MX MY MS HBT HT HTL
        have hCat : ∀ w', NdAt w' rx bx → NdAt w' ry bY → Calls Try.prog 13 #[.slice (some ⟨w'.heap.size, 0, none⟩) 2 2] (w'.alloc (.cells #[ptr bx, ptr bY] 23)) (NewNd (.cat rx ry) w') := fun w' h1 h2 => by
          have hb : Below w'.heap.size w' (w'.alloc (.cells #[ptr bx, ptr bY] 23)) := (Below.refl _ w').alloc (Nat.le_refl _) _
          refine (cat_any 2 2 (some ⟨w'.heap.size, 0, none⟩) [bx, bY] [rx, ry] _ (row_two w' bx bY) (nds_two (h1.keep (KN.of_below hb)) (h2.keep (KN.of_below hb))) rfl (by omega) (by omega) (by omega) (fun x hx => by
            rcases List.mem_cons.1 hx with rfl | hx
            · omega
            · rw [List.mem_singleton.1 hx]; omega)).mono ?_
          exact fun e w'' h => NewNd.wider h hb
        have hOr : ∀ w', NdAt w' rx bx → NdAt w' ry bY → Calls Try.prog 14 #[.slice (some ⟨w'.heap.size, 0, none⟩) 2 2] (w'.alloc (.cells #[ptr bx, ptr bY] 23)) (NewNd (.or rx ry) w') := fun w' h1 h2 => by
          have hb : Below w'.heap.size w' (w'.alloc (.cells #[ptr bx, ptr bY] 23)) := (Below.refl _ w').alloc (Nat.le_refl _) _
          refine (or_any 2 2 (some ⟨w'.heap.size, 0, none⟩) [bx, bY] [rx, ry] _ (row_two w' bx bY) (nds_two (h1.keep (KN.of_below hb)) (h2.keep (KN.of_below hb))) rfl (by omega) (by omega) (by omega) (fun x hx => by
            rcases List.mem_cons.1 hx with rfl | hx
            · omega
            · rw [List.mem_singleton.1 hx]; omega)).mono ?_
          exact fun e w'' h => NewNd.wider h hb
        have hOne : ∀ w', NdAt w' rx bx → Calls Try.prog 13 #[.slice (some ⟨w'.heap.size, 0, none⟩) 1 1] (w'.alloc (.cells #[ptr bx] 23)) (NewNd rx w') := fun w' h1 => by
          have hb : Below w'.heap.size w' (w'.alloc (.cells #[ptr bx] 23)) := (Below.refl _ w').alloc (Nat.le_refl _) _
          refine (cat_any 1 1 (some ⟨w'.heap.size, 0, none⟩) [bx] [rx] _ (row_one w' bx) (nds_one (h1.keep (KN.of_below hb))) rfl (by omega) (by omega) (by omega) (fun x hx => by rw [List.mem_singleton.1 hx]; omega)).mono ?_
          exact fun e w'' h => NewNd.wider h hb
        have HCAT := Lib.hid hCat; have HOR := Lib.hid hOr; have HONE := Lib.hid hOne
        have HSTAR := Lib.hid (fun w' (h : NdAt w' rx bx) => star_any rx bx w' h (by omega))
        have HC0 := Lib.hid (fun w' => cat_any 0 0 none [] [] w' (.inl rfl) ⟨rfl, fun i r b h => by simp at h⟩ rfl (by omega) (by omega) (by omega) (fun x hx => by cases hx))
        have HO0 := Lib.hid (fun w' => or_any 0 0 none [] [] w' (.inl rfl) ⟨rfl, fun i r b h => by simp at h⟩ rfl (by omega) (by omega) (by omega) (fun x hx => by cases hx))
        clear hCat hOr hOne
        generalize hk1 : ((t.size + 1 : Nat) : Int) = kk at hki ⊢
        clear hk1
        go_wp2_with fail
        refine (MX1.out wr HN.out.1).mono ?_
        rintro e w4 ⟨rfl, hb4⟩
        have HNw4 := Lib.hid (And.intro (HN.out.1.keep (KN.of_below hb4)) (HN.out.2.keep (KN.of_below hb4)))
        have HBw4 := Lib.hid (below_tr HQ5.out hb4 HQ5.out.size)
        clear hb4 HN HQ5
        cases α
        · go_wp2_with fail
          refine (MY1.out w4 HNw4.out.2).mono ?_
          rintro e w5 ⟨rfl, hb5⟩
          have HNw5 := Lib.hid (And.intro (HNw4.out.1.keep (KN.of_below hb5)) (HNw4.out.2.keep (KN.of_below hb5)))
          have HBw5 := Lib.hid (below_tr HBw4.out hb5 HBw4.out.size)
          clear hb5
          cases δ <;> (
            go_wp2_with fail
            refine (HCAT.out w5 HNw5.out.1 HNw5.out.2).mono ?_
            rintro e u1 ⟨n1, rfl, hn, hb⟩
            have HNu1 := Lib.hid (And.intro (HNw5.out.1.keep (KN.of_below hb)) (HNw5.out.2.keep (KN.of_below hb)))
            have HBu1 := Lib.hid (below_tr HBw5.out hb HBw5.out.size)
            have HM1 := Lib.hid (MC1.out u1 n1 hn)
            clear hn hb
            go_wp2_with fail
            refine HM1.out.mono ?_
            rintro e v1 ⟨rfl, hb⟩
            have HNv1 := Lib.hid (And.intro (HNu1.out.1.keep (KN.of_below hb)) (HNu1.out.2.keep (KN.of_below hb)))
            have HBv1 := Lib.hid (below_tr HBu1.out hb HBu1.out.size)
            clear hb
            go_wp2_with fail
            refine (HOR.out v1 HNv1.out.1 HNv1.out.2).mono ?_
            rintro e u2 ⟨n2, rfl, hn, hb⟩
            have HNu2 := Lib.hid (And.intro (HNv1.out.1.keep (KN.of_below hb)) (HNv1.out.2.keep (KN.of_below hb)))
            have HBu2 := Lib.hid (below_tr HBv1.out hb HBv1.out.size)
            have HM2 := Lib.hid (MO1.out u2 n2 hn)
            clear hn hb
            go_wp2_with fail
            refine HM2.out.mono ?_
            rintro e v2 ⟨rfl, hb⟩
            have HNv2 := Lib.hid (And.intro (HNu2.out.1.keep (KN.of_below hb)) (HNu2.out.2.keep (KN.of_below hb)))
            have HBv2 := Lib.hid (below_tr HBu2.out hb HBu2.out.size)
            clear hb
            go_wp2_with fail
            refine (HSTAR.out v2 HNv2.out.1).mono ?_
            rintro e u3 ⟨n3, rfl, hn, hb⟩
            have HNu3 := Lib.hid (And.intro (HNv2.out.1.keep (KN.of_below hb)) (HNv2.out.2.keep (KN.of_below hb)))
            have HBu3 := Lib.hid (below_tr HBv2.out hb HBv2.out.size)
            have HM3 := Lib.hid (MS1.out u3 n3 hn)
            clear hn hb
            go_wp2_with fail
            refine HM3.out.mono ?_
            rintro e v3 ⟨rfl, hb⟩
            have HNv3 := Lib.hid (And.intro (HNu3.out.1.keep (KN.of_below hb)) (HNu3.out.2.keep (KN.of_below hb)))
            have HBv3 := Lib.hid (below_tr HBu3.out hb HBu3.out.size)
            clear hb
            go_wp2_with fail
            refine (HC0.out v3).mono ?_
            rintro e u4 ⟨n4, rfl, hn, hb⟩
            have HNu4 := Lib.hid (And.intro (HNv3.out.1.keep (KN.of_below hb)) (HNv3.out.2.keep (KN.of_below hb)))
            have HBu4 := Lib.hid (below_tr HBv3.out hb HBv3.out.size)
            have HM4 := Lib.hid (ME1.out u4 n4 hn)
            clear hn hb
            go_wp2_with fail
            refine HM4.out.mono ?_
            rintro e v4 ⟨rfl, hb⟩
            have HNv4 := Lib.hid (And.intro (HNu4.out.1.keep (KN.of_below hb)) (HNu4.out.2.keep (KN.of_below hb)))
            have HBv4 := Lib.hid (below_tr HBu4.out hb HBu4.out.size)
            clear hb
            go_wp2_with fail
            refine (HO0.out v4).mono ?_
            rintro e u5 ⟨n5, rfl, hn, hb⟩
            have HNu5 := Lib.hid (And.intro (HNv4.out.1.keep (KN.of_below hb)) (HNv4.out.2.keep (KN.of_below hb)))
            have HBu5 := Lib.hid (below_tr HBv4.out hb HBv4.out.size)
            have HM5 := Lib.hid (MN1.out u5 n5 hn)
            clear hn hb
            go_wp2_with fail
            refine HM5.out.mono ?_
            rintro e v5 ⟨rfl, hb⟩
            have HNv5 := Lib.hid (And.intro (HNu5.out.1.keep (KN.of_below hb)) (HNu5.out.2.keep (KN.of_below hb)))
            have HBv5 := Lib.hid (below_tr HBu5.out hb HBu5.out.size)
            clear hb
            go_wp2_with fail
            refine (HONE.out v5 HNv5.out.1).mono ?_
            rintro e u6 ⟨n6, rfl, hn, hb⟩
            have HNu6 := Lib.hid (And.intro (HNv5.out.1.keep (KN.of_below hb)) (HNv5.out.2.keep (KN.of_below hb)))
            have HBu6 := Lib.hid (below_tr HBv5.out hb HBv5.out.size)
            have HM6 := Lib.hid (MX2.out u6 n6 hn)
            clear hn hb
            go_wp2_with fail
            refine HM6.out.mono ?_
            rintro e v6 ⟨rfl, hb⟩
            have HNv6 := Lib.hid (And.intro (HNu6.out.1.keep (KN.of_below hb)) (HNu6.out.2.keep (KN.of_below hb)))
            have HBv6 := Lib.hid (below_tr HBu6.out hb HBu6.out.size)
            clear hb
            go_wp2_with fail
            refine (MX1.out v6 HNv6.out.1).mono ?_
            rintro e u7 ⟨rfl, hb⟩
            have HBu7 := Lib.hid (below_tr HBv6.out hb HBv6.out.size)
            clear hb
            go_wp2
            go_ret
            exact ⟨rfl, HBu7.out⟩
            )
        · skip; (
            go_wp2_with fail
            refine (HCAT.out w4 HNw4.out.1 HNw4.out.2).mono ?_
            rintro e u1 ⟨n1, rfl, hn, hb⟩
            have HNu1 := Lib.hid (And.intro (HNw4.out.1.keep (KN.of_below hb)) (HNw4.out.2.keep (KN.of_below hb)))
            have HBu1 := Lib.hid (below_tr HBw4.out hb HBw4.out.size)
            have HM1 := Lib.hid (MC1.out u1 n1 hn)
            clear hn hb
            go_wp2_with fail
            refine HM1.out.mono ?_
            rintro e v1 ⟨rfl, hb⟩
            have HNv1 := Lib.hid (And.intro (HNu1.out.1.keep (KN.of_below hb)) (HNu1.out.2.keep (KN.of_below hb)))
            have HBv1 := Lib.hid (below_tr HBu1.out hb HBu1.out.size)
            clear hb
            go_wp2_with fail
            refine (HOR.out v1 HNv1.out.1 HNv1.out.2).mono ?_
            rintro e u2 ⟨n2, rfl, hn, hb⟩
            have HNu2 := Lib.hid (And.intro (HNv1.out.1.keep (KN.of_below hb)) (HNv1.out.2.keep (KN.of_below hb)))
            have HBu2 := Lib.hid (below_tr HBv1.out hb HBv1.out.size)
            have HM2 := Lib.hid (MO1.out u2 n2 hn)
            clear hn hb
            go_wp2_with fail
            refine HM2.out.mono ?_
            rintro e v2 ⟨rfl, hb⟩
            have HNv2 := Lib.hid (And.intro (HNu2.out.1.keep (KN.of_below hb)) (HNu2.out.2.keep (KN.of_below hb)))
            have HBv2 := Lib.hid (below_tr HBu2.out hb HBu2.out.size)
            clear hb
            go_wp2_with fail
            refine (HSTAR.out v2 HNv2.out.1).mono ?_
            rintro e u3 ⟨n3, rfl, hn, hb⟩
            have HNu3 := Lib.hid (And.intro (HNv2.out.1.keep (KN.of_below hb)) (HNv2.out.2.keep (KN.of_below hb)))
            have HBu3 := Lib.hid (below_tr HBv2.out hb HBv2.out.size)
            have HM3 := Lib.hid (MS1.out u3 n3 hn)
            clear hn hb
            go_wp2_with fail
            refine HM3.out.mono ?_
            rintro e v3 ⟨rfl, hb⟩
            have HNv3 := Lib.hid (And.intro (HNu3.out.1.keep (KN.of_below hb)) (HNu3.out.2.keep (KN.of_below hb)))
            have HBv3 := Lib.hid (below_tr HBu3.out hb HBu3.out.size)
            clear hb
            go_wp2_with fail
            refine (HC0.out v3).mono ?_
            rintro e u4 ⟨n4, rfl, hn, hb⟩
            have HNu4 := Lib.hid (And.intro (HNv3.out.1.keep (KN.of_below hb)) (HNv3.out.2.keep (KN.of_below hb)))
            have HBu4 := Lib.hid (below_tr HBv3.out hb HBv3.out.size)
            have HM4 := Lib.hid (ME1.out u4 n4 hn)
            clear hn hb
            go_wp2_with fail
            refine HM4.out.mono ?_
            rintro e v4 ⟨rfl, hb⟩
            have HNv4 := Lib.hid (And.intro (HNu4.out.1.keep (KN.of_below hb)) (HNu4.out.2.keep (KN.of_below hb)))
            have HBv4 := Lib.hid (below_tr HBu4.out hb HBu4.out.size)
            clear hb
            go_wp2_with fail
            refine (HO0.out v4).mono ?_
            rintro e u5 ⟨n5, rfl, hn, hb⟩
            have HNu5 := Lib.hid (And.intro (HNv4.out.1.keep (KN.of_below hb)) (HNv4.out.2.keep (KN.of_below hb)))
            have HBu5 := Lib.hid (below_tr HBv4.out hb HBv4.out.size)
            have HM5 := Lib.hid (MN1.out u5 n5 hn)
            clear hn hb
            go_wp2_with fail
            refine HM5.out.mono ?_
            rintro e v5 ⟨rfl, hb⟩
            have HNv5 := Lib.hid (And.intro (HNu5.out.1.keep (KN.of_below hb)) (HNu5.out.2.keep (KN.of_below hb)))
            have HBv5 := Lib.hid (below_tr HBu5.out hb HBu5.out.size)
            clear hb
            go_wp2_with fail
            refine (HONE.out v5 HNv5.out.1).mono ?_
            rintro e u6 ⟨n6, rfl, hn, hb⟩
            have HNu6 := Lib.hid (And.intro (HNv5.out.1.keep (KN.of_below hb)) (HNv5.out.2.keep (KN.of_below hb)))
            have HBu6 := Lib.hid (below_tr HBv5.out hb HBv5.out.size)
            have HM6 := Lib.hid (MX2.out u6 n6 hn)
            clear hn hb
            go_wp2_with fail
            refine HM6.out.mono ?_
            rintro e v6 ⟨rfl, hb⟩
            have HNv6 := Lib.hid (And.intro (HNu6.out.1.keep (KN.of_below hb)) (HNu6.out.2.keep (KN.of_below hb)))
            have HBv6 := Lib.hid (below_tr HBu6.out hb HBu6.out.size)
            clear hb
            go_wp2_with fail
            refine (MX1.out v6 HNv6.out.1).mono ?_
            rintro e u7 ⟨rfl, hb⟩
            have HBu7 := Lib.hid (below_tr HBv6.out hb HBv6.out.size)
            clear hb
            go_wp2
            go_ret
            exact ⟨rfl, HBu7.out⟩
            )
  · have hnil : px = none ∨ py = none := by
      by_cases hx : cx = 0
      · exact .inr (HY2.out (fun hy => hok ⟨hx, hy⟩)).1
      · exact .inl (HX2.out hx).1
    have hc0 : ∀ w' : World, (w'.alloc (.cells #[.pointer px, .pointer py] 23)).cell? ⟨w'.heap.size, 0, none⟩ = some (.pointer px) := fun w' => by rw [Lib.cell_of_heap (heap_alloc_new w' _)]; rfl
    have hc1 : ∀ w' : World, (w'.alloc (.cells #[.pointer px, .pointer py] 23)).cell? ⟨w'.heap.size, 1, none⟩ = some (.pointer py) := fun w' => by rw [Lib.cell_of_heap (heap_alloc_new w' _)]; rfl
    have HC := Lib.hid (fun w' : World => cat_nil w'.heap.size px py _ (hc0 w') (hc1 w') hnil)
    have HO := Lib.hid (fun w' : World => or_nil w'.heap.size px py _ (hc0 w') (hc1 w') hnil)
    have HBW := Lib.hid (fun w' : World => (show Below w'.heap.size w' (w'.alloc (.cells #[.pointer px, .pointer py] 23)) from (Below.refl _ w').alloc (Nat.le_refl _) _))
    clear hc0 hc1 hnil HX1 HX2 HY1 HY2
    by_cases hx : cx = 0
    · subst hx
      have hy : cy ≠ 0 := fun hy => hok ⟨rfl, hy⟩
      clear hok
      go_wp2_with fail
      refine (HC.out w3).mono ?_
      rintro e w4 ⟨rfl, hb4⟩
      have HB4 := Lib.hid (below_tr (HBW.out w3) hb4 (HBW.out w3).size)
      clear hb4
      go_wp2_with fail
      refine (HO.out w4).mono ?_
      rintro e w5 ⟨rfl, hb5⟩
      have HB5 := Lib.hid (below_tr HB4.out (below_tr (HBW.out w4) hb5 (HBW.out w4).size) HB4.out.size)
      clear hb5
      go_wp2
      go_ret
      exact ⟨rfl, below_tr HB03.out HB5.out HB03.out.size⟩
    · clear hok
      go_wp2_with fail
      refine (HC.out w3).mono ?_
      rintro e w4 ⟨rfl, hb4⟩
      have HB4 := Lib.hid (below_tr (HBW.out w3) hb4 (HBW.out w3).size)
      clear hb4
      go_wp2_with fail
      refine (HO.out w4).mono ?_
      rintro e w5 ⟨rfl, hb5⟩
      have HB5 := Lib.hid (below_tr HB4.out (below_tr (HBW.out w4) hb5 (HBW.out w4).size) HB4.out.size)
      clear hb5
      go_wp2
      go_ret
      exact ⟨rfl, below_tr HB03.out HB5.out HB03.out.size⟩
theorem law_makes (a b t : ByteArray) (w : World) : Calls Try.prog 4 #[.string a, .string b, .string t] w (Ans (.bool true) w) := by
  by_cases h : 30 < a.size ∨ 30 < b.size ∨ 12 < t.size
  · exact makes_long a b t w h
  · exact makes_short a b t w (by omega) (by omega) (by omega)
end Go.Proofs.Ytejdfpieblkapaa
