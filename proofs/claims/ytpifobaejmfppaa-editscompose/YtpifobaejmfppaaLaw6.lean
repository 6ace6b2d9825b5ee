/- The law EditsCompose, walked. -/
import Derived.Test.YtpifobaejmfppaaW3
namespace Go.Proofs.Ytpifobaejmfppaa
open Go.RowKit

set_option maxRecDepth 100000 in
set_option maxHeartbeats 1000000 in
theorem law_compose_great (s : ByteArray) (A1 : Option Addr) (len1 cap1 : Nat) (a : List Ed) (A2 : Option Addr) (len2 cap2 : Nat) (b : List Ed) (w : World) (hlen1 : a.length = len1) (hl1 : len1 ≤ cap1) (hcap1 : cap1 ≤ 9223372036854775807) (hE1 : EdsAt w w.heap.size A1 a)
    (hlen2 : b.length = len2) (hl2 : len2 ≤ cap2) (hcap2 : cap2 ≤ 9223372036854775807) (hE2 : EdsAt w w.heap.size A2 b)
    (h : 300 < s.size ∨ greatB a = true ∨ greatB b = true) : Calls Try.prog 6 #[.string s, .slice A1 len1 cap1, .slice A2 len2 cap2] w (Fine w) := by
  have HC := Lib.hid (great_any A1 len1 cap1 a w hlen1 hl1 hcap1 hE1); clear hlen1
  have HC2 := Lib.hid (great_any A2 len2 cap2 b w hlen2 hl2 hcap2 hE2); clear hlen2
  by_cases h3 : 300 < s.size
  · clear h
    go_enter Try.func6, Try.ntmps6
    go_wp2_with fail
    refine (awake_any _).mono ?_
    rintro e w1 ⟨rfl, hb⟩
    go_wp2
    go_ret
    exact ⟨rfl, hb⟩
  · have h' := h.resolve_left h3
    clear h
    cases hg : greatB a with
    | true =>
      have HG := Lib.hid hg; clear hg h'
      go_enter Try.func6, Try.ntmps6
      go_wp2_with fail
      refine HC.out.mono ?_
      rintro e w1 ⟨rfl, rfl⟩
      rw [HG.out]
      go_wp2_with fail
      refine (awake_any _).mono ?_
      rintro e w1 ⟨rfl, hb⟩
      go_wp2
      go_ret
      exact ⟨rfl, hb⟩
    | false =>
      have HG := Lib.hid hg
      rw [hg] at h'
      have HG2 := Lib.hid (h'.resolve_left (by simp)); clear hg h'
      go_enter Try.func6, Try.ntmps6
      go_wp2_with fail
      refine HC.out.mono ?_
      rintro e w1 ⟨rfl, rfl⟩
      rw [HG.out]
      go_wp2_with fail
      refine HC2.out.mono ?_
      rintro e w1 ⟨rfl, rfl⟩
      rw [HG2.out]
      go_wp2_with fail
      refine (awake_any _).mono ?_
      rintro e w1 ⟨rfl, hb⟩
      go_wp2
      go_ret
      exact ⟨rfl, hb⟩

set_option maxRecDepth 100000 in
set_option maxHeartbeats 1000000 in
theorem law_compose_no1 (s : ByteArray) (A1 : Option Addr) (len1 cap1 : Nat) (a : List Ed) (A2 : Option Addr) (len2 cap2 : Nat) (b : List Ed) (w : World) (hlen1 : a.length = len1) (hl1 : len1 ≤ cap1) (hcap1 : cap1 ≤ 9223372036854775807) (hE1 : EdsAt w w.heap.size A1 a)
    (hlen2 : b.length = len2) (hl2 : len2 ≤ cap2) (hcap2 : cap2 ≤ 9223372036854775807) (hE2 : EdsAt w w.heap.size A2 b)
    (h3 : s.size ≤ 300) (hg1 : greatB a = false) (hg2 : greatB b = false) (hR : rightB 0 s.size a = false) : Calls Try.prog 6 #[.string s, .slice A1 len1 cap1, .slice A2 len2 cap2] w (Fine w) := by
  have HC := Lib.hid (great_any A1 len1 cap1 a w hlen1 hl1 hcap1 hE1)
  have HC2 := Lib.hid (great_any A2 len2 cap2 b w hlen2 hl2 hcap2 hE2); clear hlen2
  have HL := Lib.hid hlen1; clear hlen1
  have HG := Lib.hid hg1; clear hg1
  have HG2 := Lib.hid hg2; clear hg2
  have HR := Lib.hid hR; clear hR
  have g3 : decide (300 < (s.size : Int)) = false := by simp; omega
  go_enter Try.func6, Try.ntmps6
  go_wp2_with fail
  refine HC.out.mono ?_
  rintro e w0 ⟨rfl, rfl⟩
  rw [HG.out]
  go_wp2_with fail
  refine HC2.out.mono ?_
  rintro e w0 ⟨rfl, rfl⟩
  rw [HG2.out]
  go_wp2_with fail
  refine (compose_no1 s A1 len1 cap1 a (.slice A2 len2 cap2) _ HL.out hl1 hcap1 hE1 HR.out).mono ?_
  rintro e w1 ⟨rfl, hb1⟩
  go_wp2_with fail
  refine (rright_any s.size A1 len1 cap1 a _ HL.out hl1 hcap1 ((hE1.below hb1).more hb1.size)).mono ?_
  rintro e w3 ⟨rfl, hb3⟩
  rw [HR.out]
  have hb3' := below_tr hb1 hb3 hb1.size
  clear hb3
  go_wp2_with fail
  refine (awake_any _).mono ?_
  rintro e w5 ⟨rfl, hb5⟩
  have hb5' := below_tr hb3' hb5 hb3'.size
  clear hb5
  go_wp2
  go_ret
  exact ⟨rfl, hb5'⟩

set_option maxRecDepth 100000 in
set_option maxHeartbeats 1000000 in
theorem law_compose_no2 (s : ByteArray) (A1 : Option Addr) (len1 cap1 : Nat) (a : List Ed) (A2 : Option Addr) (len2 cap2 : Nat) (b : List Ed) (w : World) (hlen1 : a.length = len1) (hl1 : len1 ≤ cap1) (hcap1 : cap1 ≤ 9223372036854775807) (hE1 : EdsAt w w.heap.size A1 a)
    (hlen2 : b.length = len2) (hl2 : len2 ≤ cap2) (hcap2 : cap2 ≤ 9223372036854775807) (hE2 : EdsAt w w.heap.size A2 b)
    (h3 : s.size ≤ 300) (hg1 : greatB a = false) (hg2 : greatB b = false) (hR : rightB 0 s.size a = true) (hR2 : rightB 0 ((appl s.data.toList 0 a).length : Int) b = false) : Calls Try.prog 6 #[.string s, .slice A1 len1 cap1, .slice A2 len2 cap2] w (Fine w) := by
  have HC := Lib.hid (great_any A1 len1 cap1 a w hlen1 hl1 hcap1 hE1)
  have HC2 := Lib.hid (great_any A2 len2 cap2 b w hlen2 hl2 hcap2 hE2)
  have hsm := small_of_not_great hg1
  have hS : s.size + tot a ≤ 1099511627776 := by omega
  have hlm : len1 ≤ 1048576 := by omega
  have hTs : (⟨(appl s.data.toList 0 a).toArray⟩ : ByteArray).size = (appl s.data.toList 0 a).length := by rw [Lib.size_eq]
  have HN := Lib.hid (compose_no2 s A1 len1 cap1 a A2 len2 cap2 b w hlen1 hl1 hcap1 hE1 hlen2 hl2 hcap2 hE2 hlm hR hS hR2)
  rw [← hTs] at hR2
  have HTs := Lib.hid (show (⟨(appl s.data.toList 0 a).toArray⟩ : ByteArray).size ≤ 1099511627776 by
    have hsz : s.data.toList.length = s.size := (Lib.size_eq s).symm
    have hal := appl_len s.data.toList a 0 (Nat.zero_le _) (by rw [hsz]; exact hR)
    have := sumGr_le a
    rw [hTs]; rw [hsz] at hal; omega)
  clear hTs hsm
  have HRA := Lib.hid (fun w hE => rapply_any s A1 len1 cap1 a w hlen1 hl1 hcap1 hE hR hS)
  generalize (⟨(appl s.data.toList 0 a).toArray⟩ : ByteArray) = T at *
  have HL := Lib.hid hlen1; clear hlen1
  have HL2 := Lib.hid hlen2; clear hlen2
  have HG := Lib.hid hg1; clear hg1
  have HG2 := Lib.hid hg2; clear hg2
  have HR := Lib.hid hR; clear hR
  have HR2 := Lib.hid hR2; clear hR2
  have g3 : decide (300 < (s.size : Int)) = false := by simp; omega
  go_enter Try.func6, Try.ntmps6
  go_wp2_with fail
  refine HC.out.mono ?_
  rintro e w0 ⟨rfl, rfl⟩
  rw [HG.out]
  go_wp2_with fail
  refine HC2.out.mono ?_
  rintro e w0 ⟨rfl, rfl⟩
  rw [HG2.out]
  go_wp2_with fail
  refine HN.out.mono ?_
  rintro e w1 ⟨rfl, hb1⟩
  go_wp2_with fail
  refine (rright_any s.size A1 len1 cap1 a _ HL.out hl1 hcap1 ((hE1.below hb1).more hb1.size)).mono ?_
  rintro e w3 ⟨rfl, hb3⟩
  rw [HR.out]
  have hb3' := below_tr hb1 hb3 hb1.size
  clear hb3
  go_wp2_with fail
  refine (HRA.out _ ((hE1.below hb3').more hb3'.size)).mono ?_
  rintro e w4 ⟨rfl, hb4⟩
  have hb4' := below_tr hb3' hb4 hb3'.size
  clear hb4
  have hTb := HTs.out
  go_wp2_with fail
  refine (rright_any T.size A2 len2 cap2 b _ HL2.out hl2 hcap2 ((hE2.below hb4').more hb4'.size)).mono ?_
  rintro e w6 ⟨rfl, hb6⟩
  rw [HR2.out]
  have hb6' := below_tr hb4' hb6 hb4'.size
  clear hb6
  go_wp2_with fail
  refine (awake_any _).mono ?_
  rintro e w5 ⟨rfl, hb5⟩
  have hb5' := below_tr hb6' hb5 hb6'.size
  clear hb5
  go_wp2
  go_ret
  exact ⟨rfl, hb5'⟩

set_option maxRecDepth 100000 in
set_option maxHeartbeats 4000000 in
theorem law_compose_yes (s : ByteArray) (A1 : Option Addr) (len1 cap1 : Nat) (a : List Ed) (A2 : Option Addr) (len2 cap2 : Nat) (b : List Ed) (w : World) (hlen1 : a.length = len1) (hl1 : len1 ≤ cap1) (hcap1 : cap1 ≤ 9223372036854775807) (hE1 : EdsAt w w.heap.size A1 a)
    (hlen2 : b.length = len2) (hl2 : len2 ≤ cap2) (hcap2 : cap2 ≤ 9223372036854775807) (hE2 : EdsAt w w.heap.size A2 b)
    (h3 : s.size ≤ 300) (hg1 : greatB a = false) (hg2 : greatB b = false) (hR : rightB 0 s.size a = true) (hR2 : rightB 0 ((appl s.data.toList 0 a).length : Int) b = true) : Calls Try.prog 6 #[.string s, .slice A1 len1 cap1, .slice A2 len2 cap2] w (Fine w) := by
  have HC := Lib.hid (great_any A1 len1 cap1 a w hlen1 hl1 hcap1 hE1)
  have HC2 := Lib.hid (great_any A2 len2 cap2 b w hlen2 hl2 hcap2 hE2)
  have hsm := small_of_not_great hg1
  have hsm2 := small_of_not_great hg2
  have hS : s.size + tot a ≤ 1099511627776 := by omega
  have HN := Lib.hid (compose_yes s A1 len1 cap1 a A2 len2 cap2 b w hlen1 hl1 hcap1 hE1 hlen2 hl2 hcap2 hE2 (by omega) (by omega) hR (by omega) hR2)
  have hsz : s.data.toList.length = s.size := (Lib.size_eq s).symm
  have hal := appl_len s.data.toList a 0 (Nat.zero_le _) (by rw [hsz]; exact hR)
  have hal2 := appl_len (appl s.data.toList 0 a) b 0 (Nat.zero_le _) hR2
  have hg1' := sumGr_le a
  have hg2' := sumGr_le b
  rw [hsz] at hal
  have hTs : (⟨(appl s.data.toList 0 a).toArray⟩ : ByteArray).size = (appl s.data.toList 0 a).length := by rw [Lib.size_eq]
  have HTot := Lib.hid (show ∀ L, appl s.data.toList 0 L = appl (appl s.data.toList 0 a) 0 b → s.size + tot L ≤ 1099511627776 from fun L hL => by
    have := tot_le_appl s.data.toList L 0
    rw [hL] at this
    omega)
  rw [← hTs] at hR2
  have HTs := Lib.hid (show (⟨(appl s.data.toList 0 a).toArray⟩ : ByteArray).size + tot b ≤ 1099511627776 by rw [hTs]; omega)
  have HRA := Lib.hid (fun w hE => rapply_any s A1 len1 cap1 a w hlen1 hl1 hcap1 hE hR hS)
  have HRB := Lib.hid (fun w hE => rapply_any ⟨(appl s.data.toList 0 a).toArray⟩ A2 len2 cap2 b w hlen2 hl2 hcap2 hE hR2 HTs.out)
  have HU := Lib.hid (show (⟨(appl s.data.toList 0 a).toArray⟩ : ByteArray).data.toList = appl s.data.toList 0 a from rfl)
  clear hTs hsm hsm2 hal hal2 hg1' hg2' hsz
  generalize hT : (⟨(appl s.data.toList 0 a).toArray⟩ : ByteArray) = T at *
  clear hT
  rw [HU.out] at HRB
  have HL := Lib.hid hlen1; clear hlen1
  have HL2 := Lib.hid hlen2; clear hlen2
  have HG := Lib.hid hg1; clear hg1
  have HG2 := Lib.hid hg2; clear hg2
  have HR := Lib.hid hR; clear hR
  have HR2 := Lib.hid hR2; clear hR2
  have g3 : decide (300 < (s.size : Int)) = false := by simp; omega
  go_enter Try.func6, Try.ntmps6
  go_wp2_with fail
  refine HC.out.mono ?_
  rintro e w0 ⟨rfl, rfl⟩
  rw [HG.out]
  go_wp2_with fail
  refine HC2.out.mono ?_
  rintro e w0 ⟨rfl, rfl⟩
  rw [HG2.out]
  go_wp2_with fail
  refine HN.out.mono ?_
  rintro e w1 ⟨L, ⟨A3, c3, rfl, g1, g2, ho, hb1⟩, r1, r2, r3⟩
  obtain ⟨ml, hml⟩ : ∃ ml, ml = L.length := ⟨_, rfl⟩
  rw [← hml] at g1 ho ⊢
  have HML := Lib.hid hml.symm
  clear hml
  have HE1 := Lib.hid (eds_of_own ho)
  have HLR := Lib.hid r1; have HLA := Lib.hid r2; have HLO := Lib.hid r3
  have HLS := Lib.hid (HTot.out L r2)
  clear ho r1 r2 r3 HN HTot
  go_wp2_with fail
  refine (rright_any s.size A1 len1 cap1 a _ HL.out hl1 hcap1 ((hE1.below hb1).more hb1.size)).mono ?_
  rintro e w3 ⟨rfl, hb3⟩
  rw [HR.out]
  have hb3' := below_tr hb1 hb3 hb1.size
  have HE3 := Lib.hid ((HE1.out.below hb3).more hb3.size)
  clear hb3 HE1
  go_wp2_with fail
  refine (HRA.out _ ((hE1.below hb3').more hb3'.size)).mono ?_
  rintro e w4 ⟨rfl, hb4⟩
  have hb4' := below_tr hb3' hb4 hb3'.size
  have HE4 := Lib.hid ((HE3.out.below hb4).more hb4.size)
  clear hb4 HE3
  have hTb := HTs.out
  go_wp2_with fail
  refine (rright_any T.size A2 len2 cap2 b _ HL2.out hl2 hcap2 ((hE2.below hb4').more hb4'.size)).mono ?_
  rintro e w5 ⟨rfl, hb5⟩
  rw [HR2.out]
  have hb5' := below_tr hb4' hb5 hb4'.size
  have HE5 := Lib.hid ((HE4.out.below hb5).more hb5.size)
  clear hb5 HE4
  go_wp2_with fail
  refine (rright_any s.size A3 ml c3 L _ HML.out g1 g2 HE5.out).mono ?_
  rintro e w6 ⟨rfl, hb6⟩
  rw [HLR.out]
  have hb6' := below_tr hb5' hb6 hb5'.size
  have HE6 := Lib.hid ((HE5.out.below hb6).more hb6.size)
  clear hb6 HE5
  go_wp2_with fail
  refine (rapply_any s A3 ml c3 L _ HML.out g1 g2 HE6.out HLR.out HLS.out).mono ?_
  rintro e w7 ⟨rfl, hb7⟩
  rw [HLA.out]
  have hb7' := below_tr hb6' hb7 hb6'.size
  have HE7 := Lib.hid ((HE6.out.below hb7).more hb7.size)
  clear hb7 HE6
  go_wp2_with fail
  refine (HRA.out _ ((hE1.below hb7').more hb7'.size)).mono ?_
  rintro e w8 ⟨rfl, hb8⟩
  have hb8' := below_tr hb7' hb8 hb7'.size
  have HE8 := Lib.hid ((HE7.out.below hb8).more hb8.size)
  clear hb8 HE7
  go_wp2_with fail
  refine (HRB.out _ ((hE2.below hb8').more hb8'.size)).mono ?_
  rintro e w9 ⟨rfl, hb9⟩
  have hb9' := below_tr hb8' hb9 hb8'.size
  have HE9 := Lib.hid ((HE8.out.below hb9).more hb9.size)
  clear hb9 HE8 hb1 hb3' hb4' hb5' hb6' hb7' hb8'
  generalize (⟨(appl (appl s.data.toList 0 a) 0 b).toArray⟩ : ByteArray) = U at *
  go_wp2_with fail
  go_loopw [9] (fun i wr => ∃ (k : Nat), k ≤ ml ∧ i = .int .i64 k ∧ w9.heap.size ≤ wr.heap.size ∧ Hid (EdsAt wr w9.heap.size A3 L) ∧ Below w.heap.size w wr) (fun i _ => ml - (intOf i).toNat)
  case atStart => exact ⟨0, Nat.zero_le _, rfl, Nat.le_refl _, HE9.out, hb9'⟩
  case round =>
    clear hb9' HE9
    obtain ⟨k, hk, rfl, hzw, HEr, hb⟩ := hrel
    by_cases hlt : k < ml
    · obtain ⟨e, he⟩ := get_some L k (by rw [HML.out]; exact hlt)
      obtain ⟨q1, q2, q3, _⟩ := right_at HLR.out he
      have hme := size_le_tot (List.mem_of_getElem? he)
      have HO := Lib.hid (HLO.out e (List.mem_of_getElem? he))
      have hts := HLS.out
      have hes : e.s.size ≤ 1099511627776 := by omega
      obtain ⟨ad, hA3, hab, c0, c1, c2⟩ := HEr.out k e he
      subst hA3
      clear he hme hts
      have hki : (k : Int) < ml := by omega
      have hk0 : (0 : Int) ≤ k := by omega
      go_wp2_with fail
      refine (rlean_any s e.s e.f e.t _ q1 q2 q3 (by omega) hes HO.out).mono ?_
      rintro x w10 ⟨rfl, hb10⟩
      have hz10 := hb10.size
      go_wp2
      go_roundw
      case rel => exact ⟨k + 1, by omega, by go_num, by omega, HEr.out.keep (fun p hp => hb10.cell (by omega)), below_tr hb hb10 hb.size⟩
      case measure => simp [intOf]; omega
    · go_wp2_with fail
      refine (awake_any _).mono ?_
      rintro x w10 ⟨rfl, hb10⟩
      have hb10' := below_tr hb hb10 hb.size
      clear hb10
      go_wp2
      go_ret
      exact ⟨rfl, hb10'⟩

theorem law_compose (s : ByteArray) (A1 : Option Addr) (len1 cap1 : Nat) (a : List Ed) (A2 : Option Addr) (len2 cap2 : Nat) (b : List Ed) (w : World) (hlen1 : a.length = len1) (hl1 : len1 ≤ cap1) (hcap1 : cap1 ≤ 9223372036854775807) (hE1 : EdsAt w w.heap.size A1 a)
    (hlen2 : b.length = len2) (hl2 : len2 ≤ cap2) (hcap2 : cap2 ≤ 9223372036854775807) (hE2 : EdsAt w w.heap.size A2 b) :
    Calls Try.prog 6 #[.string s, .slice A1 len1 cap1, .slice A2 len2 cap2] w (Fine w) := by
  by_cases h3 : 300 < s.size
  · exact law_compose_great s A1 len1 cap1 a A2 len2 cap2 b w hlen1 hl1 hcap1 hE1 hlen2 hl2 hcap2 hE2 (.inl h3)
  · cases hg1 : greatB a with
    | true => exact law_compose_great s A1 len1 cap1 a A2 len2 cap2 b w hlen1 hl1 hcap1 hE1 hlen2 hl2 hcap2 hE2 (.inr (.inl hg1))
    | false =>
      cases hg2 : greatB b with
      | true => exact law_compose_great s A1 len1 cap1 a A2 len2 cap2 b w hlen1 hl1 hcap1 hE1 hlen2 hl2 hcap2 hE2 (.inr (.inr hg2))
      | false =>
        cases hR : rightB 0 s.size a with
        | false => exact law_compose_no1 s A1 len1 cap1 a A2 len2 cap2 b w hlen1 hl1 hcap1 hE1 hlen2 hl2 hcap2 hE2 (by omega) hg1 hg2 hR
        | true =>
          cases hR2 : rightB 0 ((appl s.data.toList 0 a).length : Int) b with
          | false => exact law_compose_no2 s A1 len1 cap1 a A2 len2 cap2 b w hlen1 hl1 hcap1 hE1 hlen2 hl2 hcap2 hE2 (by omega) hg1 hg2 hR hR2
          | true => exact law_compose_yes s A1 len1 cap1 a A2 len2 cap2 b w hlen1 hl1 hcap1 hE1 hlen2 hl2 hcap2 hE2 (by omega) hg1 hg2 hR hR2
end Go.Proofs.Ytpifobaejmfppaa
