/- The document's own reader: hex digits; a letter, in one. -/
import Derived.Test.YtejdfpieblkapaaM52
namespace Go.Proofs.Ytejdfpieblkapaa
open Go.RowKit Go.Shelf

set_option maxRecDepth 100000 in
set_option maxHeartbeats 4000000 in
theorem letter_hex (w : World) (X : Nat) (sp s : ByteArray) (i : Nat) (d : Int) (great : Bool) (h : TxB w X s i d false great) (hs : s.size ≤ 1000000) (h92 : nx s.data.toList i = 92) (h120 : nx s.data.toList (i + 1) = 120) :
    Calls Try.prog 63 #[ptr X, .string sp] w (LtTo X s d great (letF sp s.data.toList i) w) := by
  have hlt := nx_in h92 (by omega)
  have hjl := nx_in h120 (by omega)
  obtain ⟨c0, c1, _, c3, _, cf⟩ := tx_cells h
  have f1 := cf 1; have f3 := cf 3
  have hii : (i : Int) < s.size := by omega
  have hig : ¬ (s.size : Int) ≤ i := by omega
  have hi0 : (0 : Int) ≤ i := by omega
  have hn := nx_get hlt
  have hn2 := nx_get hjl
  obtain ⟨j, hj⟩ : ∃ j, j = i + 1 := ⟨_, rfl⟩
  have p1 : IntKind.i64.wrap ((i : Int) + 1) = (j : Int) := by rw [hj, IntWalk.i64_in _ (by omega)]; omega
  have h92n : s[i].toNat = 92 := by rw [← hn]; exact h92
  have hlet : letF sp s.data.toList i = hexF s.data.toList (j + 1) := by unfold letF escF; rw [h92, if_pos rfl, h120, if_pos rfl, hj]
  rw [hlet]
  have hc92 : ((s[i].toNat : Nat) : Int) = 92 := by omega
  have hjl' : j < s.size := by omega
  have h120n : s[j].toNat = 120 := by rw [← nx_get hjl', hj]; exact h120
  have hjs : j ≤ s.size := by omega
  have hji : (j : Int) < s.size := by omega
  have hjn : ¬ (s.size : Int) ≤ j := by omega
  have hj0 : (0 : Int) ≤ j := by omega
  have hc120 : ((s[j].toNat : Nat) : Int) = 120 := by omega
  have hgd : decide (s.size ≤ i) = false := decide_eq_false (by omega)
  have hgj : decide (s.size ≤ j) = false := decide_eq_false (by omega)
  have HT0 := Lib.hid h; have HK0 := Lib.hid (Kb.refl (fun k => k = X) w)
  clear hn hn2 hlet h92 h120 h cf hj hjl
  go_enter Try.func63, Try.ntmps63
  go_wp2_with fail
  go_quiet (fail)
  have HT1 := Lib.hid (HT0.out.below (below_drewN _ w nq))
  have HK1 := Lib.hid (HK0.out.trans (Kb.of_below (fun k => k = X) (below_drewN _ w nq)) (fun _ _ h => h))
  generalize w.drewN nq = w1 at HT1 HK1 ⊢
  clear c0 c1 c3 f1 f3
  obtain ⟨c0, c1, _, c3, _, cf⟩ := tx_cells HT1.out
  have f1 := cf 1; have f3 := cf 3
  clear cf
  go_wp2_with fail
  go_quiet (fail)
  have HT2 := Lib.hid (HT1.out.below (below_drewN _ w1 nq))
  have HK2 := Lib.hid (HK1.out.trans (Kb.of_below (fun k => k = X) (below_drewN _ w1 nq)) (fun _ _ h => h))
  generalize w1.drewN nq = w2 at HT2 HK2 ⊢
  clear c0 c1 c3 f1 f3
  obtain ⟨c0, c1, _, c3, _, cf⟩ := tx_cells HT2.out
  have f1 := cf 1; have f3 := cf 3
  clear cf
  have HTj := Lib.hid (HT2.out.at' j)
  have HKj := Lib.hid (HK2.out.trans (Kb.setCell w2 ⟨X, 1, none⟩ (.int .i64 j)) (fun _ _ h => h))
  go_wp2_with fail
  generalize w2.setCell ⟨X, 1, none⟩ (.int .i64 j) = w3 at HTj HKj ⊢
  clear c0 c1 c3 f1 f3 hii hig hi0 p1 h92n hc92
  obtain ⟨c0, c1, _, c3, _, cf⟩ := tx_cells HTj.out
  have f1 := cf 1; have f3 := cf 3
  clear cf
  go_wp2_with fail
  go_quiet (fail)
  have HT4 := Lib.hid (HTj.out.below (below_drewN _ w3 nq))
  have HK4 := Lib.hid (HKj.out.trans (Kb.of_below (fun k => k = X) (below_drewN _ w3 nq)) (fun _ _ h => h))
  generalize w3.drewN nq = w4 at HT4 HK4 ⊢
  clear c0 c1 c3 f1 f3
  obtain ⟨c0, c1, _, c3, _, cf⟩ := tx_cells HT4.out
  have f1 := cf 1; have f3 := cf 3
  clear cf
  go_wp2_with fail
  go_quiet (fail)
  have HT5 := Lib.hid (HT4.out.below (below_drewN _ w4 nq))
  have HK5 := Lib.hid (HK4.out.trans (Kb.of_below (fun k => k = X) (below_drewN _ w4 nq)) (fun _ _ h => h))
  generalize w4.drewN nq = w5 at HT5 HK5 ⊢
  clear c0 c1 c3 f1 f3
  obtain ⟨c0, c1, _, c3, _, cf⟩ := tx_cells HT5.out
  have f1 := cf 1; have f3 := cf 3
  clear cf
  go_wp2_with fail
  go_loopw [6, 7] (fun vn vi wr => ∃ k N : Nat, k ≤ 2 ∧ vi = .int .i64 k ∧ vn = .int .i64 N ∧ N < 256 ∧ Hid (hexP s.data.toList (j + 1) k = some N) ∧ j + k < s.size ∧ Hid (TxB wr X s (j + k) d false great) ∧ Hid (Kb (fun k => k = X) w wr)) (fun _ vi _ => 2 - (intOf vi).toNat)
  case atStart => exact ⟨0, 0, by omega, rfl, rfl, by omega, rfl, hjl', HT5.out, HK5.out⟩
  case round =>
    obtain ⟨k, N, hk, rfl, rfl, hN, HP, hjk, HT, HK⟩ := hrel
    clear c0 c1 c3 f1 f3
    obtain ⟨c0, c1, _, c3, _, cf⟩ := tx_cells HT.out
    have f1 := cf 1; have f3 := cf 3
    clear cf
    obtain ⟨a0, ha0⟩ : ∃ a0, a0 = j + k := ⟨_, rfl⟩
    obtain ⟨a, ha⟩ : ∃ a, a = j + k + 1 := ⟨_, rfl⟩
    rw [← ha0] at c1 HT hjk
    have p1 : IntKind.i64.wrap ((a0 : Int) + 1) = (a : Int) := by rw [ha0, ha, IntWalk.i64_in _ (by omega)]; omega
    have has : a ≤ s.size := by omega
    have HA := Lib.hid ha; have HA0 := Lib.hid ha0
    have HTa := Lib.hid (HT.out.at' a)
    have HKa := Lib.hid (HK.out.trans (Kb.setCell wr ⟨X, 1, none⟩ (.int .i64 a)) (fun _ _ h => h))
    rcases (show k = 2 ∨ k < 2 by omega) with rfl | hk2
    · have HF := Lib.hid (show LtTo X s d great (hexF s.data.toList (j + 1)) w (.returned (.int .i64 N)) (wr.setCell ⟨X, 1, none⟩ (.int .i64 a)) from by
        have e : hexF s.data.toList (j + 1) = some (N, a) := by unfold hexF; rw [HP.out, HA.out]; rfl
        rw [e]
        exact lt_ok a HT.out HK.out)
      clear ha ha0 HTa HKa
      go_wp2
      go_ret
      exact HF.out
    · have hki : (k : Int) < 2 := by omega
      have hnone : hexP s.data.toList (j + 1) (k + 1) = none → hexF s.data.toList (j + 1) = none := fun h => by unfold hexF; rw [hexP_none h (by omega)]; rfl
      have hstep : hexP s.data.toList (j + 1) (k + 1) = if Lib.indexByte HX.data.toList (nx s.data.toList a).toUInt8 < 0 then none else some (N * 16 + (Lib.indexByte HX.data.toList (nx s.data.toList a).toUInt8).toNat) := by
        simp only [hexP]
        rw [HP.out, show j + 1 + k = a by omega]; rfl
      have HNO := Lib.hid hnone; have HST := Lib.hid hstep
      clear hnone hstep ha ha0
      go_wp2_with fail
      generalize wr.setCell ⟨X, 1, none⟩ (.int .i64 a) = w6 at HTa HKa ⊢
      clear c0 c1 c3 f1 f3
      obtain ⟨c0, c1, _, c3, _, cf⟩ := tx_cells HTa.out
      have f1 := cf 1; have f3 := cf 3
      clear cf
      rcases Nat.lt_or_ge a s.size with hal | hag
      · have hai : (a : Int) < s.size := by omega
        have han : ¬ (s.size : Int) ≤ a := by omega
        have hand : decide (s.size ≤ a) = false := decide_eq_false (by omega)
        have ha0' : (0 : Int) ≤ a := by omega
        have hxl := s[a].toNat_lt
        have hst := HST.out
        rw [nx_get hal] at hst
        have HHX := Lib.hid (fun w' => hexr_any s[a].toNat w' (by omega))
        obtain ⟨hv, hhv⟩ : ∃ hv, hv = Lib.indexByte HX.data.toList s[a].toNat.toUInt8 := ⟨_, rfl⟩
        have hr := indexByte_range HX.data.toList s[a].toNat.toUInt8
        have hl16 : HX.data.toList.length = 16 := rfl
        rw [hl16] at hr
        rw [← hhv] at hst HHX hr
        have HS := Lib.hid hst
        clear hst hhv hl16
        by_cases hneg : hv < 0
        · have HE := Lib.hid (HNO.out (HS.out.trans (if_pos hneg)))
          go_quiet (first | (go_at_call 72; refine Calls.quiet_of_same (HHX.out _)))
          have HT7 := Lib.hid (HTa.out.below (below_drewN _ w6 nq))
          have HK7 := Lib.hid (HKa.out.trans (Kb.of_below (fun k => k = X) (below_drewN _ w6 nq)) (fun _ _ h => h))
          generalize w6.drewN nq = w7 at HT7 HK7 ⊢
          clear c0 c1 c3 f1 f3
          obtain ⟨c0, c1, _, c3, _, cf⟩ := tx_cells HT7.out
          have f1 := cf 1; have f3 := cf 3
          clear cf
          go_wp2
          go_ret
          rw [HE.out]
          exact lt_bad HT7.out HK7.out has
        · have hnn : ¬ hv < 0 := hneg
          obtain ⟨h1, rfl⟩ : ∃ h1 : Nat, hv = (h1 : Int) := ⟨hv.toNat, by omega⟩
          have hposs : (0 : Int) ≤ (h1 : Int) := by omega
          have hst2 : hexP s.data.toList (j + 1) (k + 1) = some (N * 16 + h1) := by rw [HS.out, if_neg hneg]; rfl
          have hlt256 : N * 16 + h1 < 16 ^ (k + 1) := hexP_lt _ _ _ _ hst2
          have hpw : 16 ^ (k + 1) ≤ 256 := by
            rcases (show k = 0 ∨ k = 1 by omega) with rfl | rfl <;> decide
          have p2 : IntKind.i64.wrap (16 * (N : Int)) = 16 * (N : Int) := IntWalk.i64_in _ (by omega)
          have p3 : IntKind.i64.wrap (16 * (N : Int) + (h1 : Int)) = ((N * 16 + h1 : Nat) : Int) := by rw [IntWalk.i64_in _ (by omega)]; omega
          have HS2 := Lib.hid hst2
          clear hst2
          go_quiet (first | (go_at_call 72; refine Calls.quiet_of_same (HHX.out _)))
          have HT7 := Lib.hid (HTa.out.below (below_drewN _ w6 nq))
          have HK7 := Lib.hid (HKa.out.trans (Kb.of_below (fun k => k = X) (below_drewN _ w6 nq)) (fun _ _ h => h))
          generalize w6.drewN nq = w7 at HT7 HK7 ⊢
          clear c0 c1 c3 f1 f3
          obtain ⟨c0, c1, _, c3, _, cf⟩ := tx_cells HT7.out
          have f1 := cf 1; have f3 := cf 3
          clear cf
          go_wp2_with fail
          go_quiet (first | (go_at_call 72; refine Calls.quiet_of_same (HHX.out _)))
          have HT8 := Lib.hid (HT7.out.below (below_drewN _ w7 nq))
          have HK8 := Lib.hid (HK7.out.trans (Kb.of_below (fun k => k = X) (below_drewN _ w7 nq)) (fun _ _ h => h))
          generalize w7.drewN nq = w8 at HT8 HK8 ⊢
          clear c0 c1 c3 f1 f3
          obtain ⟨c0, c1, _, c3, _, cf⟩ := tx_cells HT8.out
          have f1 := cf 1; have f3 := cf 3
          clear cf
          go_wp2
          go_roundw
          case rel => exact ⟨k + 1, N * 16 + h1, by omega, by go_num, by go_num, by omega, HS2.out, by have := HA.out; omega, by rw [show j + (k + 1) = a by have := HA.out; omega]; exact HT8.out, HK8.out⟩
          case measure => simp [intOf]; omega
      · obtain rfl : a = s.size := by omega
        have hai : (s.size : Int) ≤ s.size := by omega
        have HE := Lib.hid (HNO.out (by rw [HST.out, nx_end]; exact if_pos (by decide)))
        go_quiet (fail)
        have HT7 := Lib.hid (HTa.out.below (below_drewN _ w6 nq))
        have HK7 := Lib.hid (HKa.out.trans (Kb.of_below (fun k => k = X) (below_drewN _ w6 nq)) (fun _ _ h => h))
        generalize w6.drewN nq = w7 at HT7 HK7 ⊢
        clear c0 c1 c3 f1 f3
        obtain ⟨c0, c1, _, c3, _, cf⟩ := tx_cells HT7.out
        have f1 := cf 1; have f3 := cf 3
        clear cf
        go_wp2
        go_ret
        rw [HE.out]
        exact lt_bad HT7.out HK7.out has
/-- The document's letter, in one. -/
theorem letter_r (w : World) (X : Nat) (sp s : ByteArray) (i : Nat) (d : Int) (great : Bool) (h : TxB w X s i d false great) (hi : i ≤ s.size) (hs : s.size ≤ 1000000) (hsp : sp.size ≤ 1000) (h0 : inS sp 0 = false) :
    Calls Try.prog 63 #[ptr X, .string sp] w (LtTo X s d great (letF sp s.data.toList i) w) := by
  by_cases h92 : nx s.data.toList i = 92
  · by_cases h120 : nx s.data.toList (i + 1) = 120
    · exact letter_hex w X sp s i d great h hs h92 h120
    · exact letter_esc w X sp s i d great h hs hsp h0 h92 h120
  · exact letter_plain w X sp s i d great h hi hs hsp h92
end Go.Proofs.Ytejdfpieblkapaa
