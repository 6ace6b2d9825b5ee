/- Lists of numbers; the example of layer 6. -/
import Derived.Test.YtejdfpieblkapaaGreatDoorG27
import Derived.Test.YtejdfpieblkapaaGreatDoorM45
import Derived.Test.YtejdfpieblkapaaGreatDoorM54
import Derived.RegionTactic
namespace Go.Proofs.YtejdfpieblkapaaGreatDoor
open Go.RowKit Go.Shelf

/-- A row of numbers, wherever it lies. -/
def NsAt (w : World) (A : Option Addr) (l : List Nat) : Prop := l = [] ∨ ∃ g cs t fz, A = some ⟨g, 0, none⟩ ∧ w.heap[g]? = some (.cells cs t fz) ∧ ∀ (j q : Nat), l[j]? = some q → cs[j]? = some (pv q)
theorem NsAt.get {w : World} {A : Option Addr} {l : List Nat} (h : NsAt w A l) {j q : Nat} (hj : l[j]? = some q) : ∃ g, A = some ⟨g, 0, none⟩ ∧ w.cell? ⟨g, j, none⟩ = some (pv q) := by
  rcases h with rfl | ⟨g, cs, t, fz, rfl, hg, hc⟩
  · simp at hj
  · exact ⟨g, rfl, by rw [Lib.cell_of_heap hg]; exact hc j q hj⟩
theorem NsAt.below {w w' : World} {A : Option Addr} {l : List Nat} (h : NsAt w A l) (hb : Below w.heap.size w w') : NsAt w' A l := by
  rcases h with rfl | ⟨g, cs, t, fz, rfl, hg, hc⟩
  · exact .inl rfl
  · exact .inr ⟨g, cs, t, fz, rfl, (hb.block _ (lt_of_heap hg)).trans hg, hc⟩
theorem own_ns {w : World} {B n c : Nat} {A : Option Addr} {l : List Nat} (h : w.ownsRow B 3 1 (.slice A n c) n (l.map pv)) : NsAt w A l := by
  rcases h.2 with ⟨hv, hn⟩ | ⟨g, cap, cur, hv, hb, hh, r1, r2, r3, r4⟩
  · have := h.1
    simp at this
    exact .inl (List.length_eq_zero_iff.1 (by omega))
  · injection hv with e1 e2 e3
    refine .inr ⟨g, cur, 3, _, e1, hh, fun j q hj => ?_⟩
    have hu : (l.map pv)[j]? = some (pv q) := by rw [List.getElem?_map, hj]; rfl
    rw [← r4] at hu
    have hlt : j < n * 1 := by
      have := (List.getElem?_eq_some_iff.1 hu).1
      rw [List.length_take] at this
      omega
    rw [List.getElem?_take_of_lt hlt] at hu
    simpa using hu
theorem take_snoc_eq {l l' : List Nat} {k a b : Nat} (ha : l[k]? = some a) (hb : l'[k]? = some b) (h : l.take k = l'.take k) (hab : a = b) : l.take (k + 1) = l'.take (k + 1) := by
  rw [List.take_add_one, List.take_add_one, ha, hb, h, hab]
theorem pv_bne {a b : Nat} (h : a ≠ b) : ((a : Int) == (b : Int)) = false := by
  rw [beq_eq_false_iff_ne]; omega

set_option maxRecDepth 100000 in
set_option maxHeartbeats 4000000 in
theorem ints_any (w : World) (A A' : Option Addr) (n n' c c' : Nat) (l l' : List Nat) (h : NsAt w A l) (h' : NsAt w A' l') (hl : l.length = n) (hl' : l'.length = n') (hn : n ≤ 1000000) :
    Calls Tryz.prog 15 #[.slice A n c, .slice A' n' c'] w (Ans (.bool (decide (l = l'))) w) := by
  by_cases hlen : n = n'
  · subst hlen
    have HH := Lib.hid h; have HH' := Lib.hid h'; have HL := Lib.hid hl; have HL' := Lib.hid hl'
    obtain ⟨β, hβ⟩ : ∃ β, β = decide (l = l') := ⟨_, rfl⟩
    rw [← hβ]
    have HB := Lib.hid hβ
    clear h h' hl hl' hβ
    go_enter Tryz.func15, Tryz.ntmps15
    go_wp2_with fail
    go_loopw [5] (fun i wr => ∃ k : Nat, k ≤ n ∧ i = .int .i64 k ∧ Hid (l.take k = l'.take k) ∧ Hid (Below w.heap.size w wr)) (fun i _ => n - (intOf i).toNat)
    case atStart => exact ⟨0, Nat.zero_le _, rfl, (show l.take 0 = l'.take 0 from rfl), Below.refl _ _⟩
    case round =>
      obtain ⟨k, hk, rfl, HT, HW⟩ := hrel
      by_cases hlt : k < n
      · have hki : (k : Int) < n := by omega
        have hk0 : (0 : Int) ≤ k := by omega
        obtain ⟨a, ha⟩ : ∃ a, l[k]? = some a := ⟨_, List.getElem?_eq_getElem (by rw [HL.out]; exact hlt)⟩
        obtain ⟨b, hb⟩ : ∃ b, l'[k]? = some b := ⟨_, List.getElem?_eq_getElem (by rw [HL'.out]; exact hlt)⟩
        obtain ⟨g, rfl, hc⟩ := (HH.out.below HW.out).get ha
        obtain ⟨g', rfl, hc'⟩ := (HH'.out.below HW.out).get hb
        have HA := Lib.hid ha; have HBB := Lib.hid hb
        clear ha hb
        go_wp2_with fail
        go_region
        have HW2 := Lib.hid (HW.out.trans ((Below.refl wr.heap.size wr).drew.mono HW.out.size))
        generalize wr.drew = wd at HW2 ⊢
        by_cases hab : a = b
        · subst hab
          have HT2 := Lib.hid (take_snoc_eq HA.out HBB.out HT.out rfl)
          clear hc hc'
          go_wp2_with fail
          go_roundw
          case rel => exact ⟨k + 1, by omega, by go_num, HT2, HW2⟩
          case measure => simp [intOf]; omega
        · have hf : β = false := by
            rw [HB.out, decide_eq_false_iff_not]
            intro e
            rw [e] at HA
            rw [HA.out] at HBB
            exact hab (Option.some.inj HBB.out)
          have hne := pv_bne hab
          have hne2 : ¬ (a : Int) = b := by omega
          subst hf
          clear hc hc'
          go_wp2_with fail
          go_ret
          exact ⟨rfl, HW2.out⟩
      · obtain rfl : k = n := by omega
        have hf : β = true := by
          rw [HB.out, decide_eq_true_eq]
          have h1 := HT.out
          rw [List.take_of_length_le (by rw [HL.out]; exact Nat.le_refl _), List.take_of_length_le (by rw [HL'.out]; exact Nat.le_refl _)] at h1
          exact h1
        subst hf
        go_wp2_with fail
        go_ret
        exact ⟨rfl, HW.out⟩
  · have hf : decide (l = l') = false := by
      rw [decide_eq_false_iff_not]
      intro e
      rw [e, hl'] at hl
      exact hlen hl.symm
    rw [hf]
    have hne : ((n : Int) == (n' : Int)) = false := by rw [beq_eq_false_iff_ne]; omega
    have hne2 : ¬ (n : Int) = n' := by omega
    clear h h' hl hl' hf hlen
    go_enter Tryz.func15, Tryz.ntmps15
    go_wp2_with fail
    go_ret
    exact ⟨rfl, Below.refl _ _⟩
end Go.Proofs.YtejdfpieblkapaaGreatDoor

/- The example of layer 6. -/
namespace Go.Proofs.YtejdfpieblkapaaGreatDoor
open Go.RowKit Go.Shelf

def awA : Rx := .cat (.set ⟨0, 8589934592, 0, 0⟩) (.star (.set ⟨0, 17179869184, 0, 0⟩))
theorem aw_parse6 : parseF [97, 98, 42] = some awA := by kernel_rfl
theorem TabH.below {w w' : World} (h : TabH w) (hb : Below w.heap.size w w') : TabH w' := h.keep (I := fun _ => True) (KeepI.below hb) trivial

theorem one_of {l : List Nat} (h : ∀ q, q ∈ l ↔ folS [awA] 0 1 q = true) (hs : l.Pairwise (· < ·)) : l = [1] := by
  have h2 : ∀ q, folS [awA] 0 1 q = true ↔ q = 1 := fun q => by
    simp [folS, awA, Rx.fol, Rx.lst, Rx.fst, Rx.cnt, Rx.nul]
  have hnd : l.Nodup := hs.imp (fun h => by omega)
  refine List.perm_singleton.1 ((List.perm_ext_iff_of_nodup hnd (by simp)).2 (fun q => ?_))
  rw [h, h2]; simp
theorem ns_made (w : World) (l : List Nat) : NsAt (w.alloc (.cells (l.map pv).toArray 3)) (some ⟨w.heap.size, 0, none⟩) l := .inr ⟨_, _, _, _, rfl, heap_alloc_new w _, fun j q hj => by simp [hj]⟩

set_option maxRecDepth 100000 in
set_option maxHeartbeats 4000000 in
theorem awake6_any (w : World) (hT : TabH w) : Calls Tryz.prog 11 #[] w (Ans (.bool true) w) := by
  have HP := Lib.hid (parse_any ⟨#[97, 98, 42]⟩ w (by decide))
  have HTB := Lib.hid hT
  clear hT
  go_enter Tryz.func11, Tryz.ntmps11
  go_wp2_with fail
  refine HP.out.mono ?_
  rintro e w1 ⟨hb1, hq⟩
  rcases hq with ⟨r, nb, hr, hz, rfl, hn, _⟩ | ⟨hr, _⟩
  · rw [show parseF _ = some awA from aw_parse6] at hr
    injection hr with hr
    subst hr
    have HB1 := Lib.hid hb1; have HN := Lib.hid hn
    clear hb1 hn hz
    go_upto_region 2 with fail
    have hal := (Below.refl _ w1).alloc (Nat.le_refl _) (.cells #[ptr nb] 68)
    have hnw := heap_alloc_new w1 (.cells #[ptr nb] 68)
    have hnd := HN.out.keep (KN.of_below hal)
    have HNEW := Lib.hid (new_ms (w1.alloc (.cells #[ptr nb] 68)) (some ⟨w1.heap.size, 0, none⟩) 1 1 [nb] [awA] (.inr ⟨w1.heap.size, #[ptr nb], (0, 0), rfl, hnw, fun i b hi => by
      rcases i with _ | i
      · simp at hi; subst hi; rfl
      · simp at hi⟩) rfl (by omega) (by omega) (by omega) ⟨rfl, fun i r b hr hb => by
      rcases i with _ | i
      · simp at hr hb; subst hr; subst hb; exact hnd
      · simp at hr⟩ (by decide))
    have HB2 := Lib.hid (below_tr HB1.out hal HB1.out.size)
    clear hal hnw hnd
    go_wp2_with fail
    generalize w1.alloc (.cells #[ptr nb] 68) = w2 at HNEW HB2 ⊢
    refine HNEW.out.mono ?_
    rintro e w3 ⟨hq | ⟨mb, rfl, hms⟩, hb3⟩
    · exact absurd hq.1 (by decide)
    · have HMS := Lib.hid hms
      have HB3 := Lib.hid (below_tr HB2.out hb3 HB2.out.size)
      clear hms hb3
      have HF := Lib.hid (first_any w3 _ mb [awA] HMS.out (by decide) 0 [0] rfl)
      go_wp2_with fail
      refine HF.out.mono ?_
      rintro e u1 ⟨v, rfl, ho, hb⟩
      obtain ⟨A1, c1, rfl, _⟩ := own_form ho
      have hns := own_ns ho
      have HBu1 := Lib.hid (below_tr HB3.out (below_tr (Below.refl _ w3) hb (Nat.le_refl _)) HB3.out.size)
      have hal := (Below.refl _ u1).alloc (Nat.le_refl _) (.cells #[.int .i64 0] 3)
      have HI1 := Lib.hid (ints_any (u1.alloc (.cells #[.int .i64 0] 3)) A1 (some ⟨u1.heap.size, 0, none⟩) 1 1 c1 1 [0] [0] (hns.below hal) (ns_made u1 [0]) rfl rfl (by omega))
      rw [show decide (([0] : List Nat) = [0]) = true from by decide] at HI1
      have HA1 := Lib.hid (below_tr (Below.refl _ w3) (below_tr hb hal hb.size) (Nat.le_refl _))
      clear ho hns hb hal
      go_wp2_with fail
      generalize u1.alloc (.cells #[.int .i64 0] 3) = x1 at HI1 HA1 ⊢
      refine HI1.out.mono ?_
      rintro e y1 ⟨rfl, hb⟩
      have HBA1 := Lib.hid (below_tr HA1.out hb HA1.out.size)
      clear hb
      have HF2 := Lib.hid (last_any y1 _ mb [awA] (HMS.out.below HBA1.out) (by decide) 0 [0, 1] rfl)
      go_wp2_with fail
      refine HF2.out.mono ?_
      rintro e u2 ⟨v, rfl, ho, hb⟩
      obtain ⟨A2, c2, rfl, _⟩ := own_form ho
      have hns := own_ns ho
      have HBu2 := Lib.hid (below_tr HB3.out (below_tr HBA1.out hb HBA1.out.size) HB3.out.size)
      have hal := (Below.refl _ u2).alloc (Nat.le_refl _) (.cells #[.int .i64 0, .int .i64 1] 3)
      have HI2 := Lib.hid (ints_any (u2.alloc (.cells #[.int .i64 0, .int .i64 1] 3)) A2 (some ⟨u2.heap.size, 0, none⟩) 2 2 c2 2 [0, 1] [0, 1] (hns.below hal) (ns_made u2 [0, 1]) rfl rfl (by omega))
      rw [show decide (([0, 1] : List Nat) = [0, 1]) = true from by decide] at HI2
      have HA2 := Lib.hid (below_tr HBA1.out (below_tr hb hal hb.size) HBA1.out.size)
      clear ho hns hb hal
      go_wp2_with fail
      generalize u2.alloc (.cells #[.int .i64 0, .int .i64 1] 3) = x2 at HI2 HA2 ⊢
      refine HI2.out.mono ?_
      rintro e y2 ⟨rfl, hb⟩
      have HBA2 := Lib.hid (below_tr HA2.out hb HA2.out.size)
      clear hb
      have HF3 : Hid (Calls Tryz.prog 20 #[ptr mb, .int .i64 1] y2 fun e w' => ∃ v, e = .returned v ∧ w'.ownsRow y2.heap.size 3 1 v [1].length ([1].map pv) ∧ Below y2.heap.size y2 w') := Lib.hid (by
        refine (follow_any y2 _ mb [awA] (HMS.out.below HBA2.out) (HTB.out.below (below_tr HB3.out HBA2.out HB3.out.size)) 1 (by decide)).mono ?_
        rintro e w' ⟨v, l, rfl, ho, h1, h2, _, h4⟩
        rw [one_of h1 h2] at ho
        exact ⟨v, rfl, ho, h4⟩)
      go_wp2_with fail
      refine HF3.out.mono ?_
      rintro e u3 ⟨v, rfl, ho, hb⟩
      obtain ⟨A3, c3, rfl, _⟩ := own_form ho
      have hns := own_ns ho
      have HBu3 := Lib.hid (below_tr HB3.out (below_tr HBA2.out hb HBA2.out.size) HB3.out.size)
      have hal := (Below.refl _ u3).alloc (Nat.le_refl _) (.cells #[.int .i64 1] 3)
      have HI3 := Lib.hid (ints_any (u3.alloc (.cells #[.int .i64 1] 3)) A3 (some ⟨u3.heap.size, 0, none⟩) 1 1 c3 1 [1] [1] (hns.below hal) (ns_made u3 [1]) rfl rfl (by omega))
      rw [show decide (([1] : List Nat) = [1]) = true from by decide] at HI3
      have HA3 := Lib.hid (below_tr HBA2.out (below_tr hb hal hb.size) HBA2.out.size)
      clear ho hns hb hal
      go_wp2_with fail
      generalize u3.alloc (.cells #[.int .i64 1] 3) = x3 at HI3 HA3 ⊢
      refine HI3.out.mono ?_
      rintro e y3 ⟨rfl, hb⟩
      have HBA3 := Lib.hid (below_tr HA3.out hb HA3.out.size)
      clear hb
      go_wp2_with fail
      go_ret
      exact ⟨rfl, below_tr HB3.out HBA3.out HB3.out.size⟩
  · rw [show parseF _ = some awA from aw_parse6] at hr
    cases hr
end Go.Proofs.YtejdfpieblkapaaGreatDoor
