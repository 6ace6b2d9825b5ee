/- Lists of numbers; the example of layer 6. -/
import Derived.Test.YtejdfpieblkapaaGreatDoorG27
import Derived.Test.YtejdfpieblkapaaGreatDoorM42
import Derived.Test.YtejdfpieblkapaaGreatDoorM54
import Derived.RegionTactic
namespace Go.Proofs.YtejdfpieblkapaaGreatDoor
open Go.RowKit Go.Shelf

/-- A row of numbers, wherever it lies. -/
def NsAt (w : World) (A : Option Addr) (l : List Nat) : Prop := l = [] ∨ ∃ g cs t fz, A = some ⟨g, 0, none⟩ ∧ w.heap[g]? = some (.cells cs t fz) ∧ ∀ (j q : Nat), l[j]? = some q → cs[j]? = some (pv q)
theorem NsAt.get {w : World} {A : Option Addr} {l : List Nat} (h : NsAt w A l) {j q : Nat} (hj : l[j]? = some q) : ∃ g, A = some ⟨g, 0, none⟩ ∧ w.cell? ⟨g, j, none⟩ = some (pv q) := by
  rcases h with rfl | ⟨g, cs, t, fz, rfl, hg, hc⟩
  · simp at hj
  · exact ⟨g, rfl, by rw [Lib.cell_of_heap hg]; exact hc j q hj⟩
theorem NsAt.below {w w' : World} {A : Option Addr} {l : List Nat} (h : NsAt w A l) (hb : Below w.heap.size w w') : NsAt w' A l := by
  rcases h with rfl | ⟨g, cs, t, fz, rfl, hg, hc⟩
  · exact .inl rfl
  · exact .inr ⟨g, cs, t, fz, rfl, (hb.block _ (lt_of_heap hg)).trans hg, hc⟩
theorem own_ns {w : World} {B n c : Nat} {A : Option Addr} {l : List Nat} (h : w.ownsRow B 3 1 (.slice A n c) n (l.map pv)) : NsAt w A l := by
  rcases h.2 with ⟨hv, hn⟩ | ⟨g, cap, cur, hv, hb, hh, r1, r2, r3, r4⟩
  · have := h.1
    simp at this
    exact .inl (List.length_eq_zero_iff.1 (by omega))
  · injection hv with e1 e2 e3
    refine .inr ⟨g, cur, 3, _, e1, hh, fun j q hj => ?_⟩
    have hu : (l.map pv)[j]? = some (pv q) := by rw [List.getElem?_map, hj]; rfl
    rw [← r4] at hu
    have hlt : j < n * 1 := by
      have := (List.getElem?_eq_some_iff.1 hu).1
      rw [List.length_take] at this
      omega
    rw [List.getElem?_take_of_lt hlt] at hu
    simpa using hu
theorem take_snoc_eq {l l' : List Nat} {k a b : Nat} (ha : l[k]? = some a) (hb : l'[k]? = some b) (h : l.take k = l'.take k) (hab : a = b) : l.take (k + 1) = l'.take (k + 1) := by
  rw [List.take_add_one, List.take_add_one, ha, hb, h, hab]
theorem pv_bne {a b : Nat} (h : a ≠ b) : ((a : Int) == (b : Int)) = false := by
  rw [beq_eq_false_iff_ne]; omega

set_option maxRecDepth 100000 in
set_option maxHeartbeats 4000000 in
theorem ints_any (w : World) (A A' : Option Addr) (n n' c c' : Nat) (l l' : List Nat) (h : NsAt w A l) (h' : NsAt w A' l') (hl : l.length = n) (hl' : l'.length = n') (hn : n ≤ 1000000) :
    Calls Tryz.prog 15 #[.slice A n c, .slice A' n' c'] w (Ans (.bool (decide (l = l'))) w) := by
  by_cases hlen : n = n'
  · subst hlen
    have HH := Lib.hid h; have HH' := Lib.hid h'; have HL := Lib.hid hl; have HL' := Lib.hid hl'
    obtain ⟨β, hβ⟩ : ∃ β, β = decide (l = l') := ⟨_, rfl⟩
    rw [← hβ]
    have HB := Lib.hid hβ
    clear h h' hl hl' hβ
    go_enter Tryz.func15, Tryz.ntmps15
    go_wp2_with fail
    go_loopw [5] (fun i wr => ∃ k : Nat, k ≤ n ∧ i = .int .i64 k ∧ Hid (l.take k = l'.take k) ∧ Hid (Below w.heap.size w wr)) (fun i _ => n - (intOf i).toNat)
    case atStart => exact ⟨0, Nat.zero_le _, rfl, (show l.take 0 = l'.take 0 from rfl), Below.refl _ _⟩
    case round =>
      obtain ⟨k, hk, rfl, HT, HW⟩ := hrel
      by_cases hlt : k < n
      · have hki : (k : Int) < n := by omega
        have hk0 : (0 : Int) ≤ k := by omega
        obtain ⟨a, ha⟩ : ∃ a, l[k]? = some a := ⟨_, List.getElem?_eq_getElem (by rw [HL.out]; exact hlt)⟩
        obtain ⟨b, hb⟩ : ∃ b, l'[k]? = some b := ⟨_, List.getElem?_eq_getElem (by rw [HL'.out]; exact hlt)⟩
        obtain ⟨g, rfl, hc⟩ := (HH.out.below HW.out).get ha
        obtain ⟨g', rfl, hc'⟩ := (HH'.out.below HW.out).get hb
        have HA := Lib.hid ha; have HBB := Lib.hid hb
        clear ha hb
        go_wp2_with fail
        go_region
        have HW2 := Lib.hid (HW.out.trans ((Below.refl wr.heap.size wr).drew.mono HW.out.size))
        generalize wr.drew = wd at HW2 ⊢
        by_cases hab : a = b
        · subst hab
          have HT2 := Lib.hid (take_snoc_eq HA.out HBB.out HT.out rfl)
          clear hc hc'
          go_wp2_with fail
          go_roundw
          case rel => exact ⟨k + 1, by omega, by go_num, HT2, HW2⟩
          case measure => simp [intOf]; omega
        · have hf : β = false := by
            rw [HB.out, decide_eq_false_iff_not]
            intro e
            rw [e] at HA
            rw [HA.out] at HBB
            exact hab (Option.some.inj HBB.out)
          have hne := pv_bne hab
          have hne2 : ¬ (a : Int) = b := by omega
          subst hf
          clear hc hc'
          go_wp2_with fail
          go_ret
          exact ⟨rfl, HW2.out⟩
      · obtain rfl : k = n := by omega
        have hf : β = true := by
          rw [HB.out, decide_eq_true_eq]
          have h1 := HT.out
          rw [List.take_of_length_le (by rw [HL.out]; exact Nat.le_refl _), List.take_of_length_le (by rw [HL'.out]; exact Nat.le_refl _)] at h1
          exact h1
        subst hf
        go_wp2_with fail
        go_ret
        exact ⟨rfl, HW.out⟩
  · have hf : decide (l = l') = false := by
      rw [decide_eq_false_iff_not]
      intro e
      rw [e, hl'] at hl
      exact hlen hl.symm
    rw [hf]
    have hne : ((n : Int) == (n' : Int)) = false := by rw [beq_eq_false_iff_ne]; omega
    have hne2 : ¬ (n : Int) = n' := by omega
    clear h h' hl hl' hf hlen
    go_enter Tryz.func15, Tryz.ntmps15
    go_wp2_with fail
    go_ret
    exact ⟨rfl, Below.refl _ _⟩
end Go.Proofs.YtejdfpieblkapaaGreatDoor

/- The example of layer 6. -/
namespace Go.Proofs.YtejdfpieblkapaaGreatDoor
open Go.RowKit Go.Shelf

def awA : Rx := .cat (.set ⟨0, 8589934592, 0, 0⟩) (.star (.set ⟨0, 17179869184, 0, 0⟩))
theorem aw_parse6 : parseF [97, 98, 42] = some awA := by kernel_rfl
theorem TabH.below {w w' : World} (h : TabH w) (hb : Below w.heap.size w w') : TabH w' := h.keep (I := fun _ => True) (KeepI.below hb) trivial

theorem one_of {l : List Nat} (h : ∀ q, q ∈ l ↔ folS [awA] 0 1 q = true) (hs : l.Pairwise (· < ·)) : l = [1] := by
  have h2 : ∀ q, folS [awA] 0 1 q = true ↔ q = 1 := fun q => by
    simp [folS, awA, Rx.fol, Rx.lst, Rx.fst, Rx.cnt]
  have hnd : l.Nodup := hs.imp (fun h => by omega)
  refine List.perm_singleton.1 ((List.perm_ext_iff_of_nodup hnd (by simp)).2 (fun q => ?_))
  rw [h, h2]; simp
theorem ns_made (w : World) (l : List Nat) : NsAt (w.alloc (.cells (l.map pv).toArray 3)) (some ⟨w.heap.size, 0, none⟩) l := .inr ⟨_, _, _, _, rfl, heap_alloc_new w _, fun j q hj => by simp [hj]⟩

set_option maxRecDepth 100000 in
set_option maxHeartbeats 4000000 in
theorem awake6_any (w : World) (hT : TabH w) : Calls Tryz.prog 11 #[] w (Ans (.bool true) w) := by
  have HP := Lib.hid (parse_any ⟨#[97, 98, 42]⟩ w (by decide))
  have HTB := Lib.hid hT
  clear hT
  go_enter Tryz.func11, Tryz.ntmps11
  go_wp2_with fail
  refine HP.out.mono ?_
  rintro e w1 ⟨hb1, hq⟩
  rcases hq with ⟨r, nb, hr, hz, rfl, hn, _⟩ | ⟨hr, _⟩
  · rw [show parseF _ = some awA from aw_parse6] at hr
    injection hr with hr
    subst hr
    have HB1 := Lib.hid hb1; have HN := Lib.hid hn
    clear hb1 hn hz
    go_upto_region 2 with fail
    have hal := (Below.refl _ w1).alloc (Nat.le_refl _) (.cells #[ptr nb] 68)
    have hnw := heap_alloc_new w1 (.cells #[ptr nb] 68)
    have hnd := HN.out.keep (KN.of_below hal)
    have HNEW := Lib.hid (new_ms (w1.alloc (.cells #[ptr nb] 68)) (some ⟨w1.heap.size, 0, none⟩) 1 1 [nb] [awA] (.inr ⟨w1.heap.size, #[ptr nb], (0, 0), rfl, hnw, fun i b hi => by
      rcases i with _ | i
      · simp at hi; subst hi; rfl
      · simp at hi⟩) rfl (by omega) (by omega) (by omega) ⟨rfl, fun i r b hr hb => by
      rcases i with _ | i
      · simp at hr hb; subst hr; subst hb; exact hnd
      · simp at hr⟩ (by decide))
    have HB2 := Lib.hid (below_tr HB1.out hal HB1.out.size)
    clear hal hnw hnd
    go_wp2_with fail
    generalize w1.alloc (.cells #[ptr nb] 68) = w2 at HNEW HB2 ⊢
    refine HNEW.out.mono ?_
    rintro e w3 ⟨hq | ⟨mb, rfl, hms⟩, hb3⟩
    · exact absurd hq.1 (by decide)
    · have HMS := Lib.hid hms
      have HB3 := Lib.hid (below_tr HB2.out hb3 HB2.out.size)
      clear hms hb3
      have HF := Lib.hid (first_any w3 _ mb [awA] HMS.out (by decide) 0 [0] rfl)
      go_wp2_with fail
      refine HF.out.mono ?_
      rintro e u1 ⟨v, rfl, ho, hb⟩
      obtain ⟨A1, c1, rfl, _⟩ := own_form ho
      have hns := own_ns ho
      have HBu1 := Lib.hid (below_tr HB3.out (below_tr (Below.refl _ w3) hb (Nat.le_refl _)) HB3.out.size)
      have hal := (Below.refl _ u1).alloc (Nat.le_refl _) (.cells #[.int .i64 0] 3)
      have HI1 := Lib.hid (ints_any (u1.alloc (.cells #[.int .i64 0] 3)) A1 (some ⟨u1.heap.size, 0, none⟩) 1 1 c1 1 [0] [0] (hns.below hal) (ns_made u1 [0]) rfl rfl (by omega))
      rw [show decide (([0] : List Nat) = [0]) = true from by decide] at HI1
      have HA1 := Lib.hid (below_tr (Below.refl _ w3) (below_tr hb hal hb.size) (Nat.le_refl _))
      clear ho hns hb hal
      go_wp2_with fail
      generalize u1.alloc (.cells #[.int .i64 0] 3) = x1 at HI1 HA1 ⊢
      refine HI1.out.mono ?_
      rintro e y1 ⟨rfl, hb⟩
      have HBA1 := Lib.hid (below_tr HA1.out hb HA1.out.size)
      clear hb
      have HF2 := Lib.hid (last_any y1 _ mb [awA] (HMS.out.below HBA1.out) (by decide) 0 [0, 1] rfl)
      go_wp2_with fail
      refine HF2.out.mono ?_
      rintro e u2 ⟨v, rfl, ho, hb⟩
      obtain ⟨A2, c2, rfl, _⟩ := own_form ho
      have hns := own_ns ho
      have HBu2 := Lib.hid (below_tr HB3.out (below_tr HBA1.out hb HBA1.out.size) HB3.out.size)
      have hal := (Below.refl _ u2).alloc (Nat.le_refl _) (.cells #[.int .i64 0, .int .i64 1] 3)
      have HI2 := Lib.hid (ints_any (u2.alloc (.cells #[.int .i64 0, .int .i64 1] 3)) A2 (some ⟨u2.heap.size, 0, none⟩) 2 2 c2 2 [0, 1] [0, 1] (hns.below hal) (ns_made u2 [0, 1]) rfl rfl (by omega))
      rw [show decide (([0, 1] : List Nat) = [0, 1]) = true from by decide] at HI2
      have HA2 := Lib.hid (below_tr HBA1.out (below_tr hb hal hb.size) HBA1.out.size)
      clear ho hns hb hal
      go_wp2_with fail
      generalize u2.alloc (.cells #[.int .i64 0, .int .i64 1] 3) = x2 at HI2 HA2 ⊢
      refine HI2.out.mono ?_
      rintro e y2 ⟨rfl, hb⟩
      have HBA2 := Lib.hid (below_tr HA2.out hb HA2.out.size)
      clear hb
      have HF3 : Hid (Calls Tryz.prog 20 #[ptr mb, .int .i64 1] y2 fun e w' => ∃ v, e = .returned v ∧ w'.ownsRow y2.heap.size 3 1 v [1].length ([1].map pv) ∧ Below y2.heap.size y2 w') := Lib.hid (by
        refine (follow_any y2 _ mb [awA] (HMS.out.below HBA2.out) (HTB.out.below (below_tr HB3.out HBA2.out HB3.out.size)) 1 (by decide)).mono ?_
        rintro e w' ⟨v, l, rfl, ho, h1, h2, _, h4⟩
        rw [one_of h1 h2] at ho
        exact ⟨v, rfl, ho, h4⟩)
      go_wp2_with fail
      refine HF3.out.mono ?_
      rintro e u3 ⟨v, rfl, ho, hb⟩
      obtain ⟨A3, c3, rfl, _⟩ := own_form ho
      have hns := own_ns ho
      have HBu3 := Lib.hid (below_tr HB3.out (below_tr HBA2.out hb HBA2.out.size) HB3.out.size)
      have hal := (Below.refl _ u3).alloc (Nat.le_refl _) (.cells #[.int .i64 1] 3)
      have HI3 := Lib.hid (ints_any (u3.alloc (.cells #[.int .i64 1] 3)) A3 (some ⟨u3.heap.size, 0, none⟩) 1 1 c3 1 [1] [1] (hns.below hal) (ns_made u3 [1]) rfl rfl (by omega))
      rw [show decide (([1] : List Nat) = [1]) = true from by decide] at HI3
      have HA3 := Lib.hid (below_tr HBA2.out (below_tr hb hal hb.size) HBA2.out.size)
      clear ho hns hb hal
      go_wp2_with fail
      generalize u3.alloc (.cells #[.int .i64 1] 3) = x3 at HI3 HA3 ⊢
      refine HI3.out.mono ?_
      rintro e y3 ⟨rfl, hb⟩
      have HBA3 := Lib.hid (below_tr HA3.out hb HA3.out.size)
      clear hb
      go_wp2_with fail
      go_ret
      exact ⟨rfl, below_tr HB3.out HBA3.out HB3.out.size⟩
  · rw [show parseF _ = some awA from aw_parse6] at hr
    cases hr
end Go.Proofs.YtejdfpieblkapaaGreatDoor

/- Rule; all calls of no machine; New of nothing. -/
namespace Go.Proofs.YtejdfpieblkapaaGreatDoor
open Go.RowKit Go.Shelf

theorem rlS_get {rs : List Rx} : ∀ {k i p R : Nat} {r : Rx}, rs[i]? = some r → cntS (rs.take i) ≤ p → p < cntS (rs.take i) + r.cnt → (rlS rs k)[p]? = some R → R = k + i := by
  induction rs with
  | nil => intro k i p R r h; simp at h
  | cons a rs ih =>
    intro k i p R r h h1 h2 h3
    cases i with
    | zero =>
      simp only [List.take_zero, List.getElem?_cons_zero, Option.some.injEq] at h h1 h2
      subst h
      have h0 : cntS ([] : List Rx) = 0 := rfl
      rw [h0] at h2
      simp only [rlS] at h3
      rw [List.getElem?_append_left (by simp; omega)] at h3
      rw [List.getElem?_replicate, if_pos (by omega)] at h3
      simp at h3
      omega
    | succ i =>
      simp only [List.getElem?_cons_succ] at h
      rw [List.take_succ_cons, cntS_cons] at h1 h2
      simp only [rlS] at h3
      rw [List.getElem?_append_right (by simp; omega), List.length_replicate] at h3
      have := ih (k := k + 1) h (by omega) (by omega) h3
      omega
set_option maxRecDepth 100000 in
set_option maxHeartbeats 1000000 in
/-- Rule. -/
theorem ruleOf_any (w : World) (B mb : Nat) (rs : List Rx) (h : MsAt w B mb rs) (p R : Nat) (hp : p < cntS rs) (hR : (rlS rs 0)[p]? = some R) :
    Calls Tryz.prog 21 #[ptr mb, .int .i64 p] w fun e w' => e = .returned (.int .i64 R) ∧ w' = w := by
  have hc2 : cntS rs ≤ 2000 := by obtain ⟨p, X, sv, rv, f, fl, ll, h1, h2, h3, h4⟩ := h; exact h4
  obtain ⟨As, Ar, A, Af, Al, Ae, cs, cr, c, cf, cl, ce, hm, _, hr, _⟩ := h.cells
  have hcr : cntS rs ≤ cr := by obtain ⟨_, _, e, h1, _⟩ := own_form hr; injection e with _ _ e; omega
  obtain ⟨g, rfl, hcl, _, _⟩ := own_cells hr (by omega)
  have hci := hcl p (pv R) (by rw [List.getElem?_map, hR]; rfl)
  have c1 : w.cell? ⟨mb, 1, none⟩ = some (.slice (some ⟨g, 0, none⟩) (cntS rs) cr) := by rw [Lib.cell_of_heap hm]; rfl
  have HPY := Lib.hid (position_yes w mb As (cntS rs) cs p (by rw [Lib.cell_of_heap hm]; rfl) hp (by omega))
  obtain ⟨N, hN⟩ : ∃ N, N = cntS rs := ⟨_, rfl⟩
  rw [← hN] at c1 hp hc2
  have hpi : (p : Int) < N := by omega
  have hp0 : (0 : Int) ≤ p := by omega
  clear h hm hr hcl hN hR
  go_enter Tryz.func21, Tryz.ntmps21
  go_wp2_with fail
  refine HPY.out.mono ?_
  rintro e w1 ⟨rfl, rfl⟩
  go_wp2
  go_ret
  exact ⟨rfl, rfl⟩
set_option maxRecDepth 100000 in
set_option maxHeartbeats 1000000 in
theorem ruleOf_out (w : World) (m : Value) (x : Int) (hR : Calls Tryz.prog 59 #[m, .int .i64 x] w fun e w' => e = .returned (.bool false) ∧ w' = w) :
    Calls Tryz.prog 21 #[m, .int .i64 x] w fun e w' => e = .returned (.int .i64 (-1)) ∧ w' = w := by
  have HR := Lib.hid hR
  clear hR
  go_enter Tryz.func21, Tryz.ntmps21
  go_wp2_with fail
  refine HR.out.mono ?_
  rintro e w1 ⟨rfl, rfl⟩
  go_wp2
  go_ret
  exact ⟨rfl, rfl⟩
set_option maxRecDepth 100000 in
set_option maxHeartbeats 1000000 in
theorem has_out (w : World) (m : Value) (x : Int) (b : Nat) (hR : Calls Tryz.prog 59 #[m, .int .i64 x] w fun e w' => e = .returned (.bool false) ∧ w' = w) :
    Calls Tryz.prog 22 #[m, .int .i64 x, .int .u8 b] w fun e w' => e = .returned (.bool false) ∧ w' = w := by
  have HR := Lib.hid hR
  clear hR
  go_enter Tryz.func22, Tryz.ntmps22
  go_wp2_with fail
  refine HR.out.mono ?_
  rintro e w1 ⟨rfl, rfl⟩
  go_wp2
  go_ret
  exact ⟨rfl, rfl⟩
set_option maxRecDepth 100000 in
set_option maxHeartbeats 1000000 in
theorem empty_out (w : World) (m : Value) (x : Int) (hR : Calls Tryz.prog 57 #[m, .int .i64 x] w fun e w' => e = .returned (.bool false) ∧ w' = w) :
    Calls Tryz.prog 23 #[m, .int .i64 x] w fun e w' => e = .returned (.bool false) ∧ w' = w := by
  have HR := Lib.hid hR
  clear hR
  go_enter Tryz.func23, Tryz.ntmps23
  go_wp2_with fail
  refine HR.out.mono ?_
  rintro e w1 ⟨rfl, rfl⟩
  go_wp2
  go_ret
  exact ⟨rfl, rfl⟩
theorem rule_nil (w : World) (x : Int) : Calls Tryz.prog 57 #[.pointer none, .int .i64 x] w fun e w' => e = .returned (.bool false) ∧ w' = w := rule_no w _ 0 x (rules_nil w) (by omega)
theorem position_nil (w : World) (x : Int) : Calls Tryz.prog 59 #[.pointer none, .int .i64 x] w fun e w' => e = .returned (.bool false) ∧ w' = w := position_no w _ 0 x (len_nil w) (by omega)
set_option maxHeartbeats 1000000 in
/-- New of nothing. -/
theorem new_empty (w : World) : Calls Tryz.prog 13 #[.slice none 0 0] w fun e w' => e = .returned (.tuple #[.pointer none, .int .i64 1]) ∧ w' = w := by
  go_enter Tryz.func13, Tryz.ntmps13
  go_wp2
  go_ret2
  exact ⟨rfl, rfl⟩
set_option maxRecDepth 100000 in
set_option maxHeartbeats 1000000 in
theorem index_nil1 (w : World) (g : Nat) (h : w.cell? ⟨g, 0, none⟩ = some (.pointer none)) : Calls Tryz.prog 78 #[.slice (some ⟨g, 0, none⟩) 1 1, .pointer none] w fun e w' => e = .returned (.int .i64 0) ∧ w' = w := by
  go_enter Tryz.func78, Tryz.ntmps78
  go_wp2_with fail
  go_loopw [8] (fun i wr => i = .int .i64 0 ∧ wr = w) (fun i _ => 1 - (intOf i).toNat)
  case atStart => exact ⟨rfl, rfl⟩
  case round =>
    obtain ⟨rfl, rfl⟩ := hrel
    go_wp2
    go_ret
    exact ⟨rfl, rfl⟩
set_option maxRecDepth 100000 in
set_option maxHeartbeats 1000000 in
theorem contains_nil1 (w : World) (g : Nat) (h : w.cell? ⟨g, 0, none⟩ = some (.pointer none)) : Calls Tryz.prog 47 #[.slice (some ⟨g, 0, none⟩) 1 1, .pointer none] w fun e w' => e = .returned (.bool true) ∧ w' = w := by
  have HI := Lib.hid (index_nil1 w g h)
  go_enter Tryz.func47, Tryz.ntmps47
  go_wp2_with fail
  refine HI.out.mono ?_
  rintro e w1 ⟨rfl, rfl⟩
  go_wp2
  go_ret
  exact ⟨rfl, rfl⟩
set_option maxRecDepth 100000 in
set_option maxHeartbeats 1000000 in
theorem new_nil1 (w : World) (g : Nat) (h : w.cell? ⟨g, 0, none⟩ = some (.pointer none)) : Calls Tryz.prog 13 #[.slice (some ⟨g, 0, none⟩) 1 1] w fun e w' => e = .returned (.tuple #[.pointer none, .int .i64 1]) ∧ w' = w := by
  have HI := Lib.hid (contains_nil1 w g h)
  go_enter Tryz.func13, Tryz.ntmps13
  go_wp2_with fail
  refine HI.out.mono ?_
  rintro e w1 ⟨rfl, rfl⟩
  go_wp2
  go_ret2
  exact ⟨rfl, rfl⟩
set_option maxRecDepth 100000 in
set_option maxHeartbeats 1000000 in
/-- those, of no machine. -/
theorem those_nil (w : World) (fv : Value) : Calls Tryz.prog 52 #[.pointer none, fv] w fun e w' => e = .returned (.slice none 0 0) ∧ w' = w := by
  have HR := Lib.hid (rules_nil w)
  go_enter Tryz.func52, Tryz.ntmps52
  go_wp2_with fail
  refine HR.out.mono ?_
  rintro e w1 ⟨rfl, rfl⟩
  go_wp2_with fail
  go_loopw [5, 9] (fun l i wr => l = .slice none 0 0 ∧ i = .int .i64 0 ∧ wr = w1) (fun _ i _ => 1 - (intOf i).toNat)
  case atStart => exact ⟨rfl, rfl, rfl⟩
  case round =>
    obtain ⟨rfl, rfl, rfl⟩ := hrel
    go_wp2
    go_ret
    exact ⟨rfl, rfl⟩
end Go.Proofs.YtejdfpieblkapaaGreatDoor

/- None of a set. -/
namespace Go.Proofs.YtejdfpieblkapaaGreatDoor
open Go.RowKit Go.Shelf

theorem all_zero_take {ws : List Nat} {k : Nat} (h : ∀ x ∈ ws.take k, x = 0) {x : Nat} (hx : ws[k]? = some x) (h0 : x = 0) : ∀ y ∈ ws.take (k + 1), y = 0 := by
  rw [List.take_add_one, hx]
  intro y hy
  rcases List.mem_append.1 hy with hy | hy
  · exact h y hy
  · simp at hy; rw [hy, h0]
set_option maxRecDepth 100000 in
set_option maxHeartbeats 1000000 in
/-- None. -/
theorem none_any (w : World) (g nw : Nat) (ws : List Nat) (h : BsAt w g ws) (hl : ws.length = nw) (hn : nw ≤ 1000000) :
    Calls Tryz.prog 86 #[bsV g nw] w fun e w' => e = .returned (.bool (ws.all (· == 0))) ∧ w' = w := by
  have HH := Lib.hid h; have HL := Lib.hid hl
  obtain ⟨β, hβ⟩ : ∃ β, β = ws.all (· == 0) := ⟨_, rfl⟩
  rw [← hβ]
  have HB := Lib.hid hβ
  clear h hl hβ
  go_enter Tryz.func86, Tryz.ntmps86
  go_wp2_with fail
  go_loopw [7] (fun i wr => ∃ k : Nat, k ≤ nw ∧ i = .int .i64 k ∧ Hid (∀ x ∈ ws.take k, x = 0) ∧ wr = w) (fun i _ => nw - (intOf i).toNat)
  case atStart => exact ⟨0, Nat.zero_le _, rfl, (show ∀ x ∈ ws.take 0, x = 0 from fun x hx => by simp at hx), rfl⟩
  case round =>
    obtain ⟨k, hk, rfl, HZ, rfl⟩ := hrel
    by_cases hlt : k < nw
    · have hki : (k : Int) < nw := by omega
      have hk0 : (0 : Int) ≤ k := by omega
      have hkw : k < ws.length := by rw [HL.out]; exact hlt
      obtain ⟨c1, _⟩ := HH.out.cell hkw
      obtain ⟨x, hx⟩ : ∃ x, x = ws[k] := ⟨_, rfl⟩
      rw [← hx] at c1
      have HX := Lib.hid (show ws[k]? = some x by rw [hx]; exact List.getElem?_eq_getElem hkw)
      clear hx hkw
      by_cases h0 : x = 0
      · have HZ2 := Lib.hid (all_zero_take HZ.out HX.out h0)
        subst h0
        go_wp2
        go_roundw
        case rel => exact ⟨k + 1, by omega, by go_num, HZ2, trivial⟩
        case measure => simp [intOf]; omega
      · have hne : ((x : Int) == 0) = false := by simp; omega
        have hne2 : ¬ (x : Int) = 0 := by omega
        have hf : β = false := by
          rw [HB.out, List.all_eq_false]
          exact ⟨x, List.mem_of_getElem? HX.out, by simpa using h0⟩
        subst hf
        go_wp2
        go_ret
        exact ⟨rfl, rfl⟩
    · obtain rfl : k = nw := by omega
      have hf : β = true := by
        rw [HB.out, List.all_eq_true]
        intro x hx
        have := HZ.out x (by rw [List.take_of_length_le (by rw [HL.out]; exact Nat.le_refl _)]; exact hx)
        simp [this]
      subst hf
      go_wp2
      go_ret
      exact ⟨rfl, rfl⟩
end Go.Proofs.YtejdfpieblkapaaGreatDoor

/- Rows of expressions, one by one; the positions that a text leads to: mathematics. -/
namespace Go.Proofs.YtejdfpieblkapaaGreatDoor
open Go.RowKit Go.Shelf

theorem cntS_at {rs : List Rx} {i : Nat} {r : Rx} (h : rs[i]? = some r) : cntS (rs.take i) + r.cnt ≤ cntS rs := by
  rw [← cntS_take h]; exact cntS_take_le rs _
theorem fstS_at {rs : List Rx} : ∀ {i n : Nat} {r : Rx}, rs[i]? = some r → (fstS rs n)[i]? = some (r.fst (n + cntS (rs.take i))) := by
  induction rs with
  | nil => intro i n r h; simp at h
  | cons a rs ih =>
    intro i n r h
    cases i with
    | zero => simp at h; subst h; simp [fstS, cntS]
    | succ i =>
      simp only [List.getElem?_cons_succ] at h
      simp only [fstS, List.getElem?_cons_succ, List.take_succ_cons]
      rw [ih h, cntS_cons, Nat.add_assoc]
theorem lstS_at {rs : List Rx} : ∀ {i n : Nat} {r : Rx}, rs[i]? = some r → (lstS rs n)[i]? = some (r.lst (n + cntS (rs.take i))) := by
  induction rs with
  | nil => intro i n r h; simp at h
  | cons a rs ih =>
    intro i n r h
    cases i with
    | zero => simp at h; subst h; simp [lstS, cntS]
    | succ i =>
      simp only [List.getElem?_cons_succ] at h
      simp only [lstS, List.getElem?_cons_succ, List.take_succ_cons]
      rw [ih h, cntS_cons, Nat.add_assoc]
theorem stsS_at {rs : List Rx} : ∀ {i j : Nat} {r : Rx} {s : Ws}, rs[i]? = some r → r.sts[j]? = some s → (stsS rs)[cntS (rs.take i) + j]? = some s := by
  induction rs with
  | nil => intro i j r s h; simp at h
  | cons a rs ih =>
    intro i j r s h hs
    cases i with
    | zero =>
      simp at h; subst h
      have h0 : cntS ((a :: rs).take 0) + j = j := by simp [cntS]
      rw [h0]
      simp only [stsS, List.flatMap_cons]
      rw [List.getElem?_append_left (List.getElem?_eq_some_iff.1 hs).1]
      exact hs
    | succ i =>
      simp only [List.getElem?_cons_succ] at h
      rw [List.take_succ_cons, cntS_cons]
      have := ih h hs
      simp only [stsS, List.flatMap_cons] at this ⊢
      rw [List.getElem?_append_right (by rw [a.sts_len]; omega), a.sts_len, show a.cnt + cntS (rs.take i) + j - a.cnt = cntS (rs.take i) + j by omega]
      exact this
theorem folS_low : ∀ {rs : List Rx} {n x y : Nat}, folS rs n x y = true → n ≤ x ∧ n ≤ y
  | [], n, x, y, h => by simp [folS] at h
  | r :: rs, n, x, y, h => by
    simp only [folS, Bool.or_eq_true] at h
    rcases h with h | h
    · have := r.fol_up n x y h; omega
    · have := folS_low h; omega
theorem folS_at {rs : List Rx} : ∀ {i n : Nat} {r : Rx} {x y : Nat}, rs[i]? = some r → n + cntS (rs.take i) ≤ x → x < n + cntS (rs.take i) + r.cnt → (folS rs n x y = true ↔ r.fol (n + cntS (rs.take i)) x y = true) := by
  induction rs with
  | nil => intro i n r x y h; simp at h
  | cons a rs ih =>
    intro i n r x y h h1 h2
    cases i with
    | zero =>
      simp at h; subst h
      have h0 : n + cntS ((a :: rs).take 0) = n := by simp [cntS]
      rw [h0] at h1 h2 ⊢
      simp only [folS, Bool.or_eq_true]
      constructor
      · rintro (h | h)
        · exact h
        · have := folS_low h; omega
      · exact .inl
    | succ i =>
      simp only [List.getElem?_cons_succ] at h
      rw [List.take_succ_cons, cntS_cons, ← Nat.add_assoc] at h1 h2 ⊢
      simp only [folS, Bool.or_eq_true]
      rw [← ih h h1 h2]
      constructor
      · rintro (h | h)
        · have := a.fol_up n x y h; omega
        · exact h
      · exact .inr
/-- Whose a position is. -/
theorem whose {rs : List Rx} : ∀ {p : Nat}, p < cntS rs → ∃ i r, rs[i]? = some r ∧ cntS (rs.take i) ≤ p ∧ p < cntS (rs.take i) + r.cnt := by
  induction rs with
  | nil => intro p h; simp [cntS] at h
  | cons a rs ih =>
    intro p h
    rw [cntS_cons] at h
    by_cases hp : p < a.cnt
    · exact ⟨0, a, rfl, by simp [cntS], by simp [cntS]; exact hp⟩
    · obtain ⟨i, r, h1, h2, h3⟩ := ih (p := p - a.cnt) (by omega)
      refine ⟨i + 1, r, h1, ?_, ?_⟩ <;> rw [List.take_succ_cons, cntS_cons] <;> omega
theorem rlS_at {rs : List Rx} : ∀ {i k p : Nat} {r : Rx}, rs[i]? = some r → cntS (rs.take i) ≤ p → p < cntS (rs.take i) + r.cnt → (rlS rs k)[p]? = some (k + i) := by
  induction rs with
  | nil => intro i k p r h; simp at h
  | cons a rs ih =>
    intro i k p r h h1 h2
    cases i with
    | zero =>
      simp at h; subst h
      have h0 : cntS ((a :: rs).take 0) = 0 := by simp [cntS]
      rw [h0] at h1 h2
      simp only [rlS]
      rw [List.getElem?_append_left (by simp; omega), List.getElem?_replicate, if_pos (by omega)]; rfl
    | succ i =>
      simp only [List.getElem?_cons_succ] at h
      rw [List.take_succ_cons, cntS_cons] at h1 h2
      simp only [rlS]
      rw [List.getElem?_append_right (by simp; omega), List.length_replicate, ih (k := k + 1) h (by omega) (by omega)]
      congr 1; omega
/-- Is a byte in a position's set? -/
def hsS (rs : List Rx) (p : Nat) (c : UInt8) : Bool := match (stsS rs)[p]? with
  | some s => s.has c
  | none => false
theorem lab_at {rs : List Rx} {i : Nat} {r : Rx} (h : rs[i]? = some r) : Lab r (cntS (rs.take i)) (hsS rs) := fun j s hj c => by
  unfold hsS; rw [stsS_at h hj]
/-- Where one may be ahead of all bytes. -/
def FsS (rs : List Rx) (p : Nat) : Prop := ∃ (i : Nat) (l : List Nat), (fstS rs 0)[i]? = some l ∧ p ∈ l
/-- Where the last byte of a text may have been read. -/
def RcS (rs : List Rx) (u : List UInt8) (q : Nat) : Prop := ∃ c v p, u = c :: v ∧ FsS rs p ∧ hsS rs p c = true ∧ Wk (folS rs 0) (hsS rs) p v q

theorem Wk.unsnoc {f : Nat → Nat → Bool} {hs : Nat → UInt8 → Bool} : ∀ {u : List UInt8} {p t : Nat} {c : UInt8}, Wk f hs p (u ++ [c]) t → ∃ q, Wk f hs p u q ∧ f q t = true ∧ hs t c = true
  | [], p, t, c, h => by
    cases h with
    | cons _ q _ _ _ h1 h2 h3 =>
      cases h3 with
      | nil => exact ⟨p, .nil p, h1, h2⟩
  | a :: u, p, t, c, h => by
    cases h with
    | cons _ q _ _ _ h1 h2 h3 =>
      obtain ⟨x, h4, h5⟩ := Wk.unsnoc h3
      exact ⟨x, .cons p q x a u h1 h2 h4, h5⟩
theorem RcS.one (rs : List Rx) (c : UInt8) (q : Nat) : RcS rs [c] q ↔ FsS rs q ∧ hsS rs q c = true := by
  constructor
  · rintro ⟨c', v, p, hu, h1, h2, h3⟩
    injection hu with e1 e2
    subst e1; subst e2
    cases h3
    exact ⟨h1, h2⟩
  · rintro ⟨h1, h2⟩
    exact ⟨c, [], q, rfl, h1, h2, .nil q⟩
theorem RcS.step (rs : List Rx) (u : List UInt8) (hu : u ≠ []) (c : UInt8) (q : Nat) : RcS rs (u ++ [c]) q ↔ (∃ p, RcS rs u p ∧ folS rs 0 p q = true) ∧ hsS rs q c = true := by
  obtain ⟨a, v, rfl⟩ := List.exists_cons_of_ne_nil hu
  constructor
  · rintro ⟨c', v', p, e, h1, h2, h3⟩
    rw [List.cons_append] at e
    injection e with e1 e2
    subst e1; subst e2
    obtain ⟨x, h4, h5, h6⟩ := h3.unsnoc
    exact ⟨⟨x, ⟨_, _, p, rfl, h1, h2, h4⟩, h5⟩, h6⟩
  · rintro ⟨⟨x, ⟨c', v', p, e, h1, h2, h3⟩, h5⟩, h6⟩
    injection e with e1 e2
    subst e1; subst e2
    exact ⟨a, v ++ [c], p, rfl, h1, h2, h3.snoc h5 h6⟩
theorem RcS.dead (rs : List Rx) (u : List UInt8) (hu : u ≠ []) (h : ∀ q, ¬ RcS rs u q) : ∀ (v : List UInt8) (q : Nat), ¬ RcS rs (u ++ v) q
  | v, q => by
    rcases List.eq_nil_or_concat v with rfl | ⟨v', c, rfl⟩
    · rw [List.append_nil]; exact h q
    · intro hr
      rw [List.concat_eq_append, ← List.append_assoc, RcS.step rs _ (by simp [hu])] at hr
      obtain ⟨⟨p, hp, _⟩, _⟩ := hr
      exact RcS.dead rs u hu h v' p hp
termination_by v => v.length
theorem FsS.lt {rs : List Rx} {p : Nat} (h : FsS rs p) : p < cntS rs := by
  obtain ⟨i, l, h1, h2⟩ := h
  have hi := (fstS_get h1).1
  have h3 := fstS_at (n := 0) (List.getElem?_eq_getElem hi)
  rw [h1] at h3
  injection h3 with h3
  rw [h3] at h2
  have := (rs[i].fst_up _).2 p h2
  have := cntS_at (List.getElem?_eq_getElem hi)
  omega
theorem folS_lt {rs : List Rx} {x y : Nat} (hx : x < cntS rs) (h : folS rs 0 x y = true) : y < cntS rs := by
  obtain ⟨i, r, h1, h2, h3⟩ := whose hx
  rw [folS_at h1 (by omega) (by omega)] at h
  have := (r.fol_up _ x y h).2
  have := cntS_at h1
  omega
theorem Wk.lt {rs : List Rx} {p q : Nat} {u : List UInt8} (hp : p < cntS rs) (h : Wk (folS rs 0) (hsS rs) p u q) : q < cntS rs := by
  induction h with
  | nil p => exact hp
  | cons p q t c u h1 h2 h3 ih => exact ih (folS_lt hp h1)
theorem RcS.lt {rs : List Rx} {u : List UInt8} {q : Nat} (h : RcS rs u q) : q < cntS rs := by
  obtain ⟨c, v, p, rfl, h1, h2, h3⟩ := h
  exact h3.lt h1.lt
/-- Which of them mean a text. -/
theorem run_iff {rs : List Rx} {i : Nat} {r : Rx} (h : rs[i]? = some r) (u : List UInt8) (hu : u ≠ []) : (∃ q ∈ r.lst (cntS (rs.take i)), RcS rs u q) ↔ r.L u := by
  have hN := cntS_at h
  rw [← acc_iff r (cntS (rs.take i)) (hsS rs) (lab_at h) u]
  generalize hn : cntS (rs.take i) = n at hN ⊢
  have hfol : ∀ {x y : Nat}, n ≤ x → x < n + r.cnt → (folS rs 0 x y = true ↔ r.fol n x y = true) := fun {x y} h1 h2 => by
    have := folS_at (n := 0) (y := y) (x := x) h (by omega) (by omega)
    rw [Nat.zero_add, hn] at this
    exact this
  constructor
  · rintro ⟨q, hq, c, v, p, rfl, hp, hc, hw⟩
    have hql := (r.lst_up n).2 q hq
    obtain ⟨j, l, h1, h2⟩ := hp
    have hj := (fstS_get h1).1
    have hrj := List.getElem?_eq_getElem hj
    have h3 := fstS_at (n := 0) hrj
    rw [h1] at h3
    injection h3 with h3
    rw [h3, Nat.zero_add] at h2
    have hpj := (rs[j].fst_up _).2 p h2
    have hst := Wk.stay (f := folS rs 0) (I := fun x => cntS (rs.take j) ≤ x ∧ x < cntS (rs.take j) + rs[j].cnt) (fun x y hx hxy => by
      refine ⟨hxy, ?_⟩
      rw [folS_at hrj (by omega) (by omega), Nat.zero_add] at hxy
      exact (rs[j].fol_up _ x y hxy).2) hw hpj
    have e1 := rlS_at (k := 0) hrj hst.2.1 hst.2.2
    have e2 := rlS_at (k := 0) (p := q) h (by omega) (by omega)
    have e3 : j = i := by rw [e1] at e2; injection e2 with e2; omega
    subst e3
    rw [hrj] at h
    injection h with h
    rw [h, hn] at h2
    have hpi := (r.fst_up n).2 p h2
    have hw2 := Wk.stay (f := r.fol n) (I := fun x => n ≤ x ∧ x < n + r.cnt) (fun x y hx hxy => by
      rw [hfol hx.1 hx.2] at hxy
      exact ⟨hxy, (r.fol_up n x y hxy).2⟩) hw hpi
    exact .inr ⟨c, v, p, q, rfl, h2, hc, hw2.1, hq⟩
  · rintro (⟨h1, _⟩ | ⟨c, v, p, q, rfl, hp, hc, hw, hq⟩)
    · exact absurd h1 hu
    · refine ⟨q, hq, c, v, p, rfl, ⟨i, _, fstS_at (n := 0) h, by rw [Nat.zero_add, hn]; exact hp⟩, hc, hw.mono (fun x y hxy => ?_)⟩
      have := r.fol_up n x y hxy
      rw [hfol this.1.1 this.1.2]
      exact hxy
theorem Rx.fst_nil : ∀ (r : Rx) (n : Nat), r.fst n = [] → r.cnt = 0
  | .set _, n, h => by simp [Rx.fst] at h
  | .empty, _, _ => rfl
  | .cat a b, n, h => by
    simp only [Rx.fst] at h
    simp only [Rx.cnt]
    split at h
    · have h1 := List.append_eq_nil_iff.1 h
      have := Rx.fst_nil a n h1.1; have := Rx.fst_nil b _ h1.2; omega
    · rename_i hn
      have h1 := Rx.fst_nil a n h
      rw [a.nul_of_cnt h1] at hn
      exact absurd rfl hn
  | .or a b, n, h => by
    simp only [Rx.fst] at h
    simp only [Rx.cnt]
    have h1 := List.append_eq_nil_iff.1 h
    have := Rx.fst_nil a n h1.1; have := Rx.fst_nil b _ h1.2; omega
  | .star a, n, h => Rx.fst_nil a n h
theorem Rx.lst_nil : ∀ (r : Rx) (n : Nat), r.lst n = [] → r.cnt = 0
  | .set _, n, h => by simp [Rx.lst] at h
  | .empty, _, _ => rfl
  | .cat a b, n, h => by
    simp only [Rx.lst] at h
    simp only [Rx.cnt]
    split at h
    · have h1 := List.append_eq_nil_iff.1 h
      have := Rx.lst_nil a n h1.1; have := Rx.lst_nil b _ h1.2; omega
    · rename_i hn
      have h1 := Rx.lst_nil b _ h
      rw [b.nul_of_cnt h1] at hn
      exact absurd rfl hn
  | .or a b, n, h => by
    simp only [Rx.lst] at h
    simp only [Rx.cnt]
    have h1 := List.append_eq_nil_iff.1 h
    have := Rx.lst_nil a n h1.1; have := Rx.lst_nil b _ h1.2; omega
  | .star a, n, h => Rx.lst_nil a n h
theorem fst_lst (r : Rx) (n : Nat) : (r.fst n = []) ↔ (r.lst n = []) := ⟨fun h => r.no_lst n (r.fst_nil n h), fun h => r.no_fst n (r.lst_nil n h)⟩
/-- All that stands behind a position is of the same expression. -/
theorem folS_own {rs : List Rx} {p q : Nat} (hp : p < cntS rs) (h : folS rs 0 p q = true) : ∃ R, (rlS rs 0)[p]? = some R ∧ (rlS rs 0)[q]? = some R := by
  obtain ⟨i, r, h1, h2, h3⟩ := whose hp
  rw [folS_at h1 (by omega) (by omega), Nat.zero_add] at h
  have := (r.fol_up _ p q h).2
  exact ⟨_, rlS_at h1 h2 h3, rlS_at h1 (by omega) (by omega)⟩
theorem fstS_own {rs : List Rx} {i : Nat} {l : List Nat} (h : (fstS rs 0)[i]? = some l) : ∀ q ∈ l, q < cntS rs ∧ (rlS rs 0)[q]? = some i := fun q hq => by
  have hi := (fstS_get h).1
  have h1 := List.getElem?_eq_getElem hi
  have h3 := fstS_at (n := 0) h1
  rw [h] at h3
  injection h3 with h3
  rw [h3] at hq
  have h4 := (rs[i].fst_up _).2 q hq
  have h5 := cntS_at h1
  refine ⟨by omega, ?_⟩
  rw [rlS_at h1 (by omega) (by omega), Nat.zero_add]
theorem lstS_own {rs : List Rx} {i : Nat} {l : List Nat} (h : (lstS rs 0)[i]? = some l) : ∀ q ∈ l, q < cntS rs ∧ (rlS rs 0)[q]? = some i := fun q hq => by
  have hi := (lstS_get h).1
  have h1 := List.getElem?_eq_getElem hi
  have h3 := lstS_at (n := 0) h1
  rw [h] at h3
  injection h3 with h3
  rw [h3] at hq
  have h4 := (rs[i].lst_up _).2 q hq
  have h5 := cntS_at h1
  refine ⟨by omega, ?_⟩
  rw [rlS_at h1 (by omega) (by omega), Nat.zero_add]
theorem firsts {rs : List Rx} {i : Nat} (hi : i < rs.length) : ∃ l k, (fstS rs 0)[i]? = some l ∧ (lstS rs 0)[i]? = some k ∧ (l = [] ↔ k = []) := by
  have h1 := List.getElem?_eq_getElem hi
  exact ⟨_, _, fstS_at h1, lstS_at h1, fst_lst _ _⟩
end Go.Proofs.YtejdfpieblkapaaGreatDoor
