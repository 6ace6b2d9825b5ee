/- The law CodesCuts, walked. -/
import Derived.Test.YtifehdoindbkmaaDoorC2
namespace Go.Proofs.YtifehdoindbkmaaDoor
open Go.RowKit

/-- First of code points' bytes: none; of these and a part of one more: where that begins. -/
theorem firstI_all {l : List Int} (h : l.all okN = true) : firstI (flat l) = -1 := by
  unfold firstI
  rw [dec_all h, if_pos rfl]

theorem firstI_cut {l : List Int} {n : Nat} {j : Nat} (h : l.all okN = true) (hn : okN n = true) (h0 : 0 < j) (hj : j < (enc n).length) : 0 ≤ firstI (flat l ++ (enc n).take j) := by
  have hd := dec_of_flat l ((enc n).take j) (fun z hz => List.all_eq_true.1 h z hz)
  rw [dec_none (stp_cut n j hn hj)] at hd
  unfold firstI
  rw [hd, if_neg]
  · simp only; omega
  · simp only [List.length_append, List.length_take]; omega

/-- What a cut at k makes of code points' bytes. -/
theorem all_take {l : List Int} (h : l.all okN = true) (m : Nat) : (l.take m).all okN = true :=
  List.all_eq_true.2 fun z hz => List.all_eq_true.1 h z (List.mem_of_mem_take hz)
theorem all_drop {l : List Int} (h : l.all okN = true) (m : Nat) : (l.drop m).all okN = true :=
  List.all_eq_true.2 fun z hz => List.all_eq_true.1 h z (List.mem_of_mem_drop hz)
theorem flat_take_drop (l : List Int) (m : Nat) : flat l = flat (l.take m) ++ flat (l.drop m) := by
  rw [← flat_append, List.take_append_drop]
theorem flat_take_at (l : List Int) (m : Nat) : (flat l).take (flat (l.take m)).length = flat (l.take m) := by
  rw [flat_take_drop l m, List.take_left]
theorem flat_drop_at (l : List Int) (m : Nat) : (flat l).drop (flat (l.take m)).length = flat (l.drop m) := by
  conv => lhs; rw [flat_take_drop l m]
  rw [List.drop_left]
theorem flat_take_succ {l : List Int} {m : Nat} {z : Int} (h : l[m]? = some z) : flat (l.take (m + 1)) = flat (l.take m) ++ enc z.toNat := by
  rw [List.take_add_one, h, Option.toList_some, flat_snoc]
theorem stp_at {l : List Int} {m : Nat} {z : Int} (hall : l.all okN = true) (h : l[m]? = some z) : stp ((flat l).drop (flat (l.take m)).length) = some (z.toNat, (enc z.toNat).length) := by
  rw [flat_drop_at]
  obtain ⟨h1, h2⟩ := List.getElem?_eq_some_iff.1 h
  rw [List.drop_eq_getElem_cons h1, h2, flat_cons]
  have hz := List.all_eq_true.1 hall z (List.mem_of_getElem? h)
  exact stp_enc _ _ (by rw [Int.toNat_of_nonneg (okN_iff.1 hz).1]; exact hz)

/-- A cut within a code point's bytes. -/
theorem first_within {l : List Int} {m k : Nat} {z : Int} (hall : l.all okN = true) (h : l[m]? = some z) (h0 : (flat (l.take m)).length < k) (h1 : k < (flat (l.take (m + 1))).length) : 0 ≤ firstI ((flat l).take k) := by
  have hz := List.all_eq_true.1 hall z (List.mem_of_getElem? h)
  have hzn : okN z.toNat = true := by rw [Int.toNat_of_nonneg (okN_iff.1 hz).1]; exact hz
  rw [flat_take_succ h, List.length_append] at h1
  have e : (flat l).take k = flat (l.take m) ++ (enc z.toNat).take (k - (flat (l.take m)).length) := by
    have e1 : flat l = flat (l.take m) ++ (enc z.toNat ++ flat (l.drop (m + 1))) := by
      obtain ⟨q1, q2⟩ := List.getElem?_eq_some_iff.1 h
      conv => lhs; rw [flat_take_drop l m, List.drop_eq_getElem_cons q1, q2, flat_cons]
    rw [e1, List.take_append, List.take_of_length_le (by omega), List.take_append_of_le_length (by omega)]
  rw [e]
  exact firstI_cut (all_take hall m) hzn (by omega) (by omega)

set_option maxRecDepth 100000 in
set_option maxHeartbeats 4000000 in
theorem law_cuts (A : Option Addr) (len cap : Nat) (l : List Int) (x : Int) (w : World) (hlen : l.length = len) (hl : len ≤ cap) (hcap : cap ≤ 9223372036854775807) (hx0 : 0 ≤ x) (hx1 : x ≤ 255) (hA : IntsAt w w.heap.size A l) (hT : LenT w) :
    Calls Tryd.prog 8 #[.slice A len cap, .int .u8 x] w (Fine w) := by
  by_cases h60 : 60 < len
  · have q : decide (60 < (len : Int)) = true := by simp; omega
    go_enter Tryd.func8, Tryd.ntmps8
    go_wp2_with fail
    refine (awake_any _ hT).mono ?_
    rintro e w1 ⟨rfl, hb⟩
    go_wp2
    go_ret
    exact ⟨rfl, hb⟩
  · have hsm : len ≤ 60 := by omega
    have HL := Lib.hid hlen
    clear hlen
    go_enter Tryd.func8, Tryd.ntmps8
    go_wp2_with fail
    refine (awake_any _ hT).mono ?_
    rintro e w0 ⟨rfl, hb0⟩
    have hT0 : LenT w0 := hT.below hb0 hT.1
    have HE := encode_any A len cap l w0 HL.out hl hcap (by omega) ((hA.below hb0 (Nat.le_refl _)).more hb0.size) hT0
    by_cases hall : l.all okN = true
    · rw [encV_yes hall] at HE
      obtain ⟨S, hS⟩ : ∃ S : ByteArray, S = ⟨(flat l).toArray⟩ := ⟨_, rfl⟩
      have hSd : S.data.toList = flat l := by rw [hS]
      have hSs : S.size = (flat l).length := by rw [Lib.size_eq, hSd]
      have hfl := flat_len l
      have hll := HL.out
      rw [← hS] at HE
      have hss : S.size ≤ 240 := by omega
      have HSD := Lib.hid hSd; have HSS := Lib.hid hSs; have HALL := Lib.hid hall
      clear hSd hSs hall hfl hS hll
      go_wp2_with fail
      refine HE.mono ?_
      rintro e w1 ⟨rfl, hb1'⟩
      have hb1 := hb0.trans (hb1'.mono hb0.size)
      clear HE hb1'
      obtain ⟨k, hk⟩ : ∃ k : Nat, x % ((S.size : Int) + 1) = (k : Int) := ⟨(x % ((S.size : Int) + 1)).toNat, (Int.toNat_of_nonneg (Int.emod_nonneg _ (by omega))).symm⟩
      have hk1 : k ≤ S.size := by
        have := Int.emod_lt_of_pos x (show 0 < (S.size : Int) + 1 by omega)
        omega
      have HK := Lib.hid hk; clear hk
      have hk2 : (k : Int) ≤ (S.size : Int) := by omega
      have hk3 : (0 : Int) ≤ (k : Int) := by omega
      go_wp2_with fail
      rw [HK.out]
      go_quiet (fail)
      go_wp2_with fail
      have hbq := below_drewN hb1 nq
      obtain ⟨wd, hwd⟩ : ∃ wd, wd = w1.drewN nq := ⟨_, rfl⟩
      rw [← hwd] at hbq ⊢
      clear hwd hb1
      have hxa : (S.extract 0 k).data.toList = (flat l).take k := by rw [Lib.extract_data, HSD.out, List.drop_zero, Nat.sub_zero]
      have hxb : (S.extract k S.size).data.toList = (flat l).drop k := by
        rw [Lib.extract_data, HSD.out, List.take_of_length_le (by rw [List.length_drop, ← HSS.out]; omega)]
      have hsa : (S.extract 0 k).size ≤ 240 := by rw [Lib.size_eq, hxa, List.length_take]; omega
      have hsb : (S.extract k S.size).size ≤ 240 := by rw [Lib.size_eq, hxb, List.length_drop, ← HSS.out]; omega
      generalize S.extract 0 k = a at *
      generalize S.extract k S.size = b at *
      have HXA := Lib.hid hxa; have HXB := Lib.hid hxb
      clear hxa hxb
      go_loopw [10, 11] (fun p c wr => ∃ (m i : Nat), m ≤ len ∧ i ≤ S.size ∧ p = .int .i64 i ∧ c = .int .i64 m ∧ Hid (i = (flat (l.take m)).length) ∧ Hid (m = 0 ∨ (flat (l.take (m - 1))).length < k) ∧ Below w.heap.size w wr) (fun p _ _ => k - (intOf p).toNat)
      case atStart => exact ⟨0, 0, by omega, by omega, rfl, rfl, rfl, .inl rfl, hbq⟩
      case round =>
        obtain ⟨m, i, hm, hi, rfl, rfl, HI, HP, hb⟩ := hrel
        have hTr : LenT wr := hT.below hb hT.1
        by_cases hlt : i < k
        · have hml : m < len := by
            rcases Nat.lt_or_ge m len with h | h
            · exact h
            · have h1 := HI.out
              rw [List.take_of_length_le (by rw [HL.out]; omega), ← HSS.out] at h1
              omega
          obtain ⟨z, hz⟩ : ∃ z, l[m]? = some z := ⟨_, List.getElem?_eq_getElem (by rw [HL.out]; exact hml)⟩
          have hst := stp_at HALL.out hz
          rw [← HI.out, ← HSD.out] at hst
          have hle := stp_len hst
          rw [List.length_drop, ← Lib.size_eq] at hle
          have HC := step_in S i wr (by omega) (by omega) hTr
          rw [stpV_some hst] at HC
          have HN := Lib.hid (show i + (enc z.toNat).length = (flat (l.take (m + 1))).length by rw [flat_take_succ hz, List.length_append, ← HI.out])
          clear hst hz
          obtain ⟨sz, hsz⟩ : ∃ sz, sz = (enc z.toNat).length := ⟨_, rfl⟩
          rw [← hsz] at HC hle HN
          clear hsz
          obtain ⟨hle1, hle2, hle3⟩ := hle
          go_wp2_with fail
          refine HC.mono ?_
          rintro e w2 ⟨rfl, hb2⟩
          have HB2 := Lib.hid (hb.trans (hb2.mono hb.size))
          clear hb2 HC
          go_wp2
          go_roundw
          case rel => exact ⟨m + 1, i + sz, by omega, by omega, by go_num, by go_num, HN.out, .inr (by rw [Nat.add_sub_cancel, ← HI.out]; exact hlt), HB2.out⟩
          case measure => simp [intOf]; omega
        · by_cases heq : i = k
          · have ha' : a.data.toList = flat (l.take m) := by rw [HXA.out, ← heq, HI.out, flat_take_at]
            have hb' : b.data.toList = flat (l.drop m) := by rw [HXB.out, ← heq, HI.out, flat_drop_at]
            have ca := fun W (h : LenT W) => first_any a W (by omega) h
            have cb := fun W (h : LenT W) => first_any b W (by omega) h
            have za := fun W (h : LenT W) => size_any a W (by omega) h
            have zb := fun W (h : LenT W) => size_any b W (by omega) h
            have zs := fun W (h : LenT W) => size_any S W (by omega) h
            have hlm : (l.take m).length = m := by rw [List.length_take, HL.out]; omega
            have hld : (l.drop m).length = len - m := by rw [List.length_drop, HL.out]
            rw [ha', firstI_all (all_take HALL.out m)] at ca
            rw [hb', firstI_all (all_drop HALL.out m)] at cb
            rw [ha', dec_all (all_take HALL.out m)] at za
            rw [hb', dec_all (all_drop HALL.out m)] at zb
            rw [HSD.out, dec_all HALL.out] at zs
            simp only [hlm] at za
            simp only [hld] at zb
            simp only [HL.out] at zs
            clear ha' hb' hlm hld
            have q1 : ((i : Int) != (k : Int)) = false := by simp; omega
            have q2 : ((m : Int) + ((len - m : Nat) : Int) == (len : Int)) = true := by rw [beq_iff_eq]; omega
            have HEQ := Lib.hid heq; clear heq
            go_wp2_with fail
            refine (ca _ hTr).mono ?_
            rintro e w2 ⟨rfl, hb2⟩
            have hc2 := hb.trans (hb2.mono hb.size)
            clear hb2
            go_wp2_with fail
            refine (cb _ (hT.below hc2 hT.1)).mono ?_
            rintro e w3 ⟨rfl, hb3⟩
            have hc3 := hc2.trans (hb3.mono hc2.size)
            clear hb3
            go_wp2_with fail
            refine (za _ (hT.below hc3 hT.1)).mono ?_
            rintro e w4 ⟨rfl, hb4⟩
            have hc4 := hc3.trans (hb4.mono hc3.size)
            clear hb4
            go_wp2_with fail
            refine (za _ (hT.below hc4 hT.1)).mono ?_
            rintro e w5 ⟨rfl, hb5⟩
            have hc5 := hc4.trans (hb5.mono hc4.size)
            clear hb5
            go_wp2_with fail
            refine (zb _ (hT.below hc5 hT.1)).mono ?_
            rintro e w6 ⟨rfl, hb6⟩
            have hc6 := hc5.trans (hb6.mono hc5.size)
            clear hb6
            go_wp2_with fail
            refine (zs _ (hT.below hc6 hT.1)).mono ?_
            rintro e w7 ⟨rfl, hb7⟩
            have hc7 := hc6.trans (hb7.mono hc6.size)
            clear hb7 ca cb za zb zs
            go_wp2
            go_ret
            exact ⟨rfl, hc7⟩
          · have hmp : 0 < m := by
              rcases Nat.eq_zero_or_pos m with h | h
              · subst h
                have := HI.out
                simp [flat_nil] at this
                omega
              · exact h
            obtain ⟨z, hz⟩ : ∃ z, l[m - 1]? = some z := ⟨_, List.getElem?_eq_getElem (by rw [HL.out]; omega)⟩
            have hpr : (flat (l.take (m - 1))).length < k := by
              rcases HP.out with h | h
              · omega
              · exact h
            have hF := first_within (k := k) HALL.out hz hpr (by rw [Nat.sub_add_cancel hmp, ← HI.out]; omega)
            have ca := first_any a wr (by omega) hTr
            rw [HXA.out] at ca
            obtain ⟨F, hF0⟩ : ∃ F, F = firstI ((flat l).take k) := ⟨_, rfl⟩
            rw [← hF0] at ca hF
            clear hF0 hz hpr
            have q1 : ((i : Int) != (k : Int)) = true := by simp; omega
            have HEQ := Lib.hid heq; clear heq
            go_wp2_with fail
            refine ca.mono ?_
            rintro e w2 ⟨rfl, hb2⟩
            have hc2 := hb.trans (hb2.mono hb.size)
            clear hb2 ca
            go_wp2
            go_ret
            refine ⟨ret_bool ?_, hc2⟩
            simp
    · rw [encV_no hall] at HE
      clear hall
      go_wp2_with fail
      refine HE.mono ?_
      rintro e w1 ⟨rfl, hb1⟩
      clear HE
      go_wp2
      go_ret
      exact ⟨rfl, hb0.trans (hb1.mono hb0.size)⟩
end Go.Proofs.YtifehdoindbkmaaDoor
