/- The document's First (frisketref04); the law CodesDecode, walked. -/
import Derived.Test.YtifehdoindbkmaaDoorC2
import Derived.Deep.DeepCutAuto
namespace Go.Proofs.YtifehdoindbkmaaDoor
open Go.RowKit

theorem ext_to_end (s : ByteArray) (i : Nat) : (s.extract i s.size).data.toList = s.data.toList.drop i := by
  rw [Lib.extract_data, List.take_of_length_le (by rw [List.length_drop, ← Lib.size_eq]; omega)]

theorem firstI_of_none {L : List UInt8} {i : Nat} (h1 : i + (dec (L.drop i)).2 = (dec L).2) (h2 : stp (L.drop i) = none) (hi : i < L.length) : firstI L = i := by
  rw [dec_none h2] at h1
  unfold firstI
  rw [if_neg (by simp only at h1; omega), ← h1]; rfl

theorem firstI_of_end {L : List UInt8} (h1 : L.length + (dec ([] : List UInt8)).2 = (dec L).2) : firstI L = -1 := by
  rw [dec_nil] at h1
  unfold firstI
  rw [if_pos (by simp only at h1; omega)]

set_option maxRecDepth 100000 in
set_option maxHeartbeats 2000000 in
theorem rfirst_any (s : ByteArray) (w : World) (hs : s.size ≤ 1000000) :
    Calls Tryd.prog 23 #[.string s] w fun e w' => e = .returned (.tuple #[.int .i64 (firstI s.data.toList), .int .i64 (dec s.data.toList).1.length]) ∧ Below w.heap.size w w' := by
  obtain ⟨L, hL⟩ : ∃ L, L = s.data.toList := ⟨_, rfl⟩
  have hlen : L.length = s.size := by rw [hL, ← Lib.size_eq]
  rw [← hL]
  have HLN := Lib.hid hlen; have HL := Lib.hid hL
  clear hlen hL
  go_enter Tryd.func23, Tryd.ntmps23
  go_wp2_with fail
  go_loopw [4, 5] (fun c p wr => ∃ (i m : Nat), i ≤ s.size ∧ m ≤ i ∧ p = .int .i64 i ∧ c = .int .i64 m ∧ Hid (m + (dec (L.drop i)).1.length = (dec L).1.length) ∧ Hid (i + (dec (L.drop i)).2 = (dec L).2) ∧ Below w.heap.size w wr) (fun _ p _ => s.size - (intOf p).toNat)
  case atStart => exact ⟨0, 0, by omega, by omega, rfl, rfl, by show _ = _; simp, by show _ = _; simp, Below.refl _ _⟩
  case round =>
    obtain ⟨i, m, hi, hmi, rfl, rfl, HM, HN, hb⟩ := hrel
    by_cases hlt : i < s.size
    · have hx := ext_to_end s i
      rw [← HL.out] at hx
      have hxs : (s.extract i s.size).size ≤ 1099511627776 := by rw [Lib.size_eq, hx, List.length_drop, HLN.out]; omega
      have HR := rstep_any (s.extract i s.size) wr hxs
      rw [hx] at HR
      clear hx
      cases hs' : stp (L.drop i) with
      | some q =>
        obtain ⟨c, k⟩ := q
        have hk := stp_len hs'
        rw [List.length_drop, HLN.out] at hk
        obtain ⟨hk1, hk2, hk3⟩ := hk
        rw [rstV_some hs'] at HR
        have hds := dec_some hs'
        rw [List.drop_drop] at hds
        have HD := Lib.hid hds
        have hc0 : (0 : Int) ≤ (c : Int) := by omega
        clear hds hs'
        go_wp2_with fail
        refine HR.mono ?_
        rintro e w1 ⟨rfl, hb1⟩
        have HB1 := Lib.hid (hb.trans (hb1.mono hb.size))
        clear hb1 HR
        go_wp2
        go_roundw
        case rel =>
          refine ⟨i + k, m + 1, by omega, by omega, by go_num, by go_num, ?_, ?_, HB1.out⟩
          · show _ = _
            rw [← HM.out, HD.out, List.length_cons]; omega
          · show _ = _
            rw [← HN.out, HD.out]; simp only; omega
        case measure => simp [intOf]; omega
      | none =>
        rw [rstV_none hs'] at HR
        have HF := Lib.hid (firstI_of_none HN.out hs' (by rw [HLN.out]; exact hlt))
        have HD := Lib.hid (dec_none hs')
        clear hs'
        go_wp2_with fail
        refine HR.mono ?_
        rintro e w1 ⟨rfl, hb1⟩
        have HB1 := Lib.hid (hb.trans (hb1.mono hb.size))
        clear hb1 HR
        go_wp2
        go_ret2
        refine ⟨?_, HB1.out⟩
        rw [HF.out, ← HM.out, HD.out]; rfl
    · have hie : L.drop i = [] := List.drop_of_length_le (by rw [HLN.out]; omega)
      have HF := Lib.hid (firstI_of_end (L := L) (by have := HN.out; rw [hie] at this; rw [HLN.out]; omega))
      have HIE := Lib.hid hie; clear hie
      go_wp2
      go_ret2
      refine ⟨?_, hb⟩
      rw [HF.out, ← HM.out, HIE.out, dec_nil]; rfl

theorem cols_dec : ∀ (n : Nat) (L : List UInt8), L.length ≤ n → (dec L).2 = L.length → cols L = (dec L).1.length
  | 0, L, h, _ => by
    have : L = [] := List.eq_nil_of_length_eq_zero (by omega)
    subst this; rfl
  | n + 1, L, h, hd => by
    by_cases e : L = []
    · subst e; rfl
    · cases hs : stp L with
      | none =>
        rw [dec_none hs] at hd
        exact absurd (List.eq_nil_of_length_eq_zero hd.symm) e
      | some q =>
        obtain ⟨c, k⟩ := q
        have hk := stp_len hs
        rw [dec_some hs] at hd
        simp only at hd
        rw [cols_cons e, adv_some hs, cols_dec n (L.drop k) (by rw [List.length_drop]; omega) (by rw [List.length_drop]; omega), dec_some hs, List.length_cons]
        omega

theorem firstI_right {L : List UInt8} (h : (dec L).2 = L.length) : firstI L = -1 := by unfold firstI; rw [if_pos h]
theorem firstI_wrong {L : List UInt8} (h : (dec L).2 < L.length) : firstI L = (dec L).2 := by unfold firstI; rw [if_neg (by omega)]

set_option maxRecDepth 100000 in
set_option maxHeartbeats 4000000 in
theorem law_decode_neg_wrong (s : ByteArray) (p : Int) (w : World) (hs : s.size ≤ 500) (hT : LenT w) (hp : p < 0) (hd : (dec s.data.toList).2 < s.size) : Calls Tryd.prog 6 #[.string s, .int .i64 p] w (Fine w) := by
  have CS := fun W => step_out s p W (.inl hp)
  have cs0 : (Value.tuple #[.int .i64 0, .int .i64 0, .bool false]) = .tuple #[.int .i64 0, .int .i64 0, .bool false] := rfl
  clear cs0
  have CD := decode_any s w (by omega) hT
  unfold DecAt at CD
  have hdl := (dec_flat s.data.toList _ (Nat.le_refl _))
  have hdc : (dec s.data.toList).1.length ≤ 500 := by
    have h1 := flat_ge (dec s.data.toList).1
    rw [hdl.2.1, List.length_take, ← Lib.size_eq] at h1
    omega
  clear hdl
  have CF := fun W => rfirst_any s W (by omega)
  have CG := fun W (h : LenT W) => first_any s W (by omega) h
  have CZ := fun W (h : LenT W) => size_any s W (by omega) h
  rw [firstI_wrong (by rw [← Lib.size_eq]; exact hd)] at CF CG
  obtain ⟨D, hD⟩ : ∃ D, D = dec s.data.toList := ⟨_, rfl⟩
  rw [← hD] at CD CF CZ hdc hd
  rw [← hD] at CG
  clear hD
  obtain ⟨dl, dn⟩ := D
  simp only at CD CF CZ hdc hd
  simp only at CG
  
  go_enter Tryd.func6, Tryd.ntmps6
  go_wp2_with fail
  refine CD.mono ?_
  rintro e w1 ⟨hb1, hcase⟩
  have hc1 := hb1
  rcases hcase with ⟨_, rfl⟩ | ⟨h, _⟩
  case inr => omega
  clear CD hb1
  have ht1 : Below w1.heap.size w1 w1 := Below.refl _ _
  go_wp2_with fail
  refine (CF _).mono ?_
  rintro e w2 ⟨rfl, hb2⟩
  have hc2 := hc1.trans (hb2.mono hc1.size)
  have ht2 := ht1.trans (hb2.mono ht1.size)
  clear hb2 CF
  go_wp2_with fail
  refine (CS _).mono ?_
  rintro e w3 ⟨rfl, rfl⟩
  have hc3 := hc2
  have ht3 := ht2
  clear CS
  go_upto_region 9 with (fail)
  generalize hm : (-1 : Int) = m1 at ⊢
  have hm1 : m1 < 0 := by omega
  have hq1 : decide (0 ≤ m1) = false := by simp; omega
  have hq2 : max m1 0 = 0 := by omega
  clear hm hm1
  go_wp2_with fail
  refine (CG _ (hT.below hc3 hT.1)).mono ?_
  rintro e w4 ⟨rfl, hb4⟩
  have hc4 := hc3.trans (hb4.mono hc3.size)
  have ht4 := ht3.trans (hb4.mono ht3.size)
  clear hb4 CG
  go_wp2_with fail
  refine (CZ _ (hT.below hc4 hT.1)).mono ?_
  rintro e w5 ⟨rfl, hb5⟩
  have hc5 := hc4.trans (hb5.mono hc4.size)
  have ht5 := ht4.trans (hb5.mono ht4.size)
  clear hb5 CZ
  go_wp2_with fail
  refine (awake_any _ (hT.below hc5 hT.1)).mono ?_
  rintro e w6 ⟨rfl, hb6⟩
  have hc6 := hc5.trans (hb6.mono hc5.size)
  clear hb6
  go_wp2
  go_ret
  exact ⟨rfl, hc6⟩

set_option maxRecDepth 100000 in
set_option maxHeartbeats 4000000 in
theorem law_decode_neg_right (s : ByteArray) (p : Int) (w : World) (hs : s.size ≤ 500) (hT : LenT w) (hp : p < 0) (hd : (dec s.data.toList).2 = s.size) : Calls Tryd.prog 6 #[.string s, .int .i64 p] w (Fine w) := by
  have CS := fun W => step_out s p W (.inl hp)
  have cs0 : (Value.tuple #[.int .i64 0, .int .i64 0, .bool false]) = .tuple #[.int .i64 0, .int .i64 0, .bool false] := rfl
  clear cs0
  have CD := decode_any s w (by omega) hT
  unfold DecAt at CD
  have hdl := (dec_flat s.data.toList _ (Nat.le_refl _))
  have hdc : (dec s.data.toList).1.length ≤ 500 := by
    have h1 := flat_ge (dec s.data.toList).1
    rw [hdl.2.1, List.length_take, ← Lib.size_eq] at h1
    omega
  clear hdl
  have hflat := dec_flat s.data.toList _ (Nat.le_refl _)
  have CC := fun W (h : LenT W) => columns_any s W (by omega) h
  rw [cols_dec _ _ (Nat.le_refl _) (hd.trans (Lib.size_eq s))] at CC
  have hEV : encV (dec s.data.toList).1 = .tuple #[.string s, .bool true] := by
    rw [encV_yes (List.all_eq_true.2 hflat.1), hflat.2.1, List.take_of_length_le (by rw [← Lib.size_eq, hd]; exact Nat.le_refl _), Lib.mk_data]
  have q0 : (s.toList == s.toList) = true := by simp
  have CF := fun W => rfirst_any s W (by omega)
  have CG := fun W (h : LenT W) => first_any s W (by omega) h
  have CZ := fun W (h : LenT W) => size_any s W (by omega) h
  rw [firstI_right (hd.trans (Lib.size_eq s))] at CF CG
  obtain ⟨D, hD⟩ : ∃ D, D = dec s.data.toList := ⟨_, rfl⟩
  rw [← hD] at CD CF CZ hdc hd
  rw [← hD] at CC hEV
  clear hD
  obtain ⟨dl, dn⟩ := D
  simp only at CD CF CZ hdc hd
  simp only at CC hEV
  clear hflat; have HEV := Lib.hid hEV; clear hEV
  go_enter Tryd.func6, Tryd.ntmps6
  go_wp2_with fail
  refine CD.mono ?_
  rintro e w1 ⟨hb1, hcase⟩
  have hc1 := hb1
  rcases hcase with ⟨h, _⟩ | ⟨_, A, cp, rfl, hown⟩
  case inl => omega
  clear CD hb1
  obtain ⟨i1, hcp1, hcp2, _⟩ := intsAt_own hown
  have HI1 := Lib.hid i1
  clear i1 hown
  have ht1 : Below w1.heap.size w1 w1 := Below.refl _ _
  go_wp2_with fail
  refine (CF _).mono ?_
  rintro e w2 ⟨rfl, hb2⟩
  have hc2 := hc1.trans (hb2.mono hc1.size)
  have ht2 := ht1.trans (hb2.mono ht1.size)
  clear hb2 CF
  go_wp2_with fail
  refine (CS _).mono ?_
  rintro e w3 ⟨rfl, rfl⟩
  have hc3 := hc2
  have ht3 := ht2
  clear CS
  go_upto_region 9 with (fail)
  generalize hm : (-1 : Int) = m1 at CG ⊢
  have hm1 : m1 < 0 := by omega
  have hq1 : decide (0 ≤ m1) = false := by simp; omega
  have hq2 : max m1 0 = 0 := by omega
  clear hm hm1
  go_wp2_with fail
  refine (CG _ (hT.below hc3 hT.1)).mono ?_
  rintro e w4 ⟨rfl, hb4⟩
  have hc4 := hc3.trans (hb4.mono hc3.size)
  have ht4 := ht3.trans (hb4.mono ht3.size)
  clear hb4 CG
  go_wp2_with fail
  refine (CZ _ (hT.below hc4 hT.1)).mono ?_
  rintro e w5 ⟨rfl, hb5⟩
  have hc5 := hc4.trans (hb5.mono hc4.size)
  have ht5 := ht4.trans (hb5.mono ht4.size)
  clear hb5 CZ
  have hc15 : Below w1.heap.size w1 w5 := ht5
  go_wp2_with fail
  refine (encode_any A dl.length cp dl _ rfl hcp1 hcp2 (by omega) (((HI1.out.below hc15 (Nat.le_refl _)).more hc15.size)) (hT.below hc5 hT.1)).mono ?_
  rw [HEV.out]
  rintro e w6 ⟨rfl, hb6⟩
  have hc6 := hc5.trans (hb6.mono hc5.size)
  clear hb6
  go_wp2_with fail
  refine (CC _ (hT.below hc6 hT.1)).mono ?_
  rintro e w7 ⟨rfl, hb7⟩
  have hc7 := hc6.trans (hb7.mono hc6.size)
  clear hb7
  go_wp2_with fail
  refine (awake_any _ (hT.below hc7 hT.1)).mono ?_
  rintro e w8 ⟨rfl, hb8⟩
  have hc8 := hc7.trans (hb8.mono hc7.size)
  clear hb8
  go_wp2
  go_ret
  exact ⟨rfl, hc8⟩

set_option maxRecDepth 100000 in
set_option maxHeartbeats 4000000 in
theorem law_decode_big_wrong (s : ByteArray) (p : Int) (w : World) (hs : s.size ≤ 500) (hT : LenT w) (hp : (s.size : Int) ≤ p) (hd : (dec s.data.toList).2 < s.size) : Calls Tryd.prog 6 #[.string s, .int .i64 p] w (Fine w) := by
  have CS := fun W => step_out s p W (.inr hp)
  have cs0 : (Value.tuple #[.int .i64 0, .int .i64 0, .bool false]) = .tuple #[.int .i64 0, .int .i64 0, .bool false] := rfl
  clear cs0
  have CD := decode_any s w (by omega) hT
  unfold DecAt at CD
  have hdl := (dec_flat s.data.toList _ (Nat.le_refl _))
  have hdc : (dec s.data.toList).1.length ≤ 500 := by
    have h1 := flat_ge (dec s.data.toList).1
    rw [hdl.2.1, List.length_take, ← Lib.size_eq] at h1
    omega
  clear hdl
  have CF := fun W => rfirst_any s W (by omega)
  have CG := fun W (h : LenT W) => first_any s W (by omega) h
  have CZ := fun W (h : LenT W) => size_any s W (by omega) h
  rw [firstI_wrong (by rw [← Lib.size_eq]; exact hd)] at CF CG
  obtain ⟨D, hD⟩ : ∃ D, D = dec s.data.toList := ⟨_, rfl⟩
  rw [← hD] at CD CF CZ hdc hd
  rw [← hD] at CG
  clear hD
  obtain ⟨dl, dn⟩ := D
  simp only at CD CF CZ hdc hd
  simp only at CG
  
  go_enter Tryd.func6, Tryd.ntmps6
  go_wp2_with fail
  refine CD.mono ?_
  rintro e w1 ⟨hb1, hcase⟩
  have hc1 := hb1
  rcases hcase with ⟨_, rfl⟩ | ⟨h, _⟩
  case inr => omega
  clear CD hb1
  have ht1 : Below w1.heap.size w1 w1 := Below.refl _ _
  go_wp2_with fail
  refine (CF _).mono ?_
  rintro e w2 ⟨rfl, hb2⟩
  have hc2 := hc1.trans (hb2.mono hc1.size)
  have ht2 := ht1.trans (hb2.mono ht1.size)
  clear hb2 CF
  go_wp2_with fail
  refine (CS _).mono ?_
  rintro e w3 ⟨rfl, rfl⟩
  have hc3 := hc2
  have ht3 := ht2
  clear CS
  go_upto_region 9 with (fail)
  generalize hm : (-1 : Int) = m1 at ⊢
  have hm1 : m1 < 0 := by omega
  have hq1 : decide (0 ≤ m1) = false := by simp; omega
  have hq2 : max m1 0 = 0 := by omega
  clear hm hm1
  go_wp2_with fail
  refine (CG _ (hT.below hc3 hT.1)).mono ?_
  rintro e w4 ⟨rfl, hb4⟩
  have hc4 := hc3.trans (hb4.mono hc3.size)
  have ht4 := ht3.trans (hb4.mono ht3.size)
  clear hb4 CG
  go_wp2_with fail
  refine (CZ _ (hT.below hc4 hT.1)).mono ?_
  rintro e w5 ⟨rfl, hb5⟩
  have hc5 := hc4.trans (hb5.mono hc4.size)
  have ht5 := ht4.trans (hb5.mono ht4.size)
  clear hb5 CZ
  go_wp2_with fail
  refine (awake_any _ (hT.below hc5 hT.1)).mono ?_
  rintro e w6 ⟨rfl, hb6⟩
  have hc6 := hc5.trans (hb6.mono hc5.size)
  clear hb6
  go_wp2
  go_ret
  exact ⟨rfl, hc6⟩

set_option maxRecDepth 100000 in
set_option maxHeartbeats 4000000 in
theorem law_decode_big_right (s : ByteArray) (p : Int) (w : World) (hs : s.size ≤ 500) (hT : LenT w) (hp : (s.size : Int) ≤ p) (hd : (dec s.data.toList).2 = s.size) : Calls Tryd.prog 6 #[.string s, .int .i64 p] w (Fine w) := by
  have CS := fun W => step_out s p W (.inr hp)
  have cs0 : (Value.tuple #[.int .i64 0, .int .i64 0, .bool false]) = .tuple #[.int .i64 0, .int .i64 0, .bool false] := rfl
  clear cs0
  have CD := decode_any s w (by omega) hT
  unfold DecAt at CD
  have hdl := (dec_flat s.data.toList _ (Nat.le_refl _))
  have hdc : (dec s.data.toList).1.length ≤ 500 := by
    have h1 := flat_ge (dec s.data.toList).1
    rw [hdl.2.1, List.length_take, ← Lib.size_eq] at h1
    omega
  clear hdl
  have hflat := dec_flat s.data.toList _ (Nat.le_refl _)
  have CC := fun W (h : LenT W) => columns_any s W (by omega) h
  rw [cols_dec _ _ (Nat.le_refl _) (hd.trans (Lib.size_eq s))] at CC
  have hEV : encV (dec s.data.toList).1 = .tuple #[.string s, .bool true] := by
    rw [encV_yes (List.all_eq_true.2 hflat.1), hflat.2.1, List.take_of_length_le (by rw [← Lib.size_eq, hd]; exact Nat.le_refl _), Lib.mk_data]
  have q0 : (s.toList == s.toList) = true := by simp
  have CF := fun W => rfirst_any s W (by omega)
  have CG := fun W (h : LenT W) => first_any s W (by omega) h
  have CZ := fun W (h : LenT W) => size_any s W (by omega) h
  rw [firstI_right (hd.trans (Lib.size_eq s))] at CF CG
  obtain ⟨D, hD⟩ : ∃ D, D = dec s.data.toList := ⟨_, rfl⟩
  rw [← hD] at CD CF CZ hdc hd
  rw [← hD] at CC hEV
  clear hD
  obtain ⟨dl, dn⟩ := D
  simp only at CD CF CZ hdc hd
  simp only at CC hEV
  clear hflat; have HEV := Lib.hid hEV; clear hEV
  go_enter Tryd.func6, Tryd.ntmps6
  go_wp2_with fail
  refine CD.mono ?_
  rintro e w1 ⟨hb1, hcase⟩
  have hc1 := hb1
  rcases hcase with ⟨h, _⟩ | ⟨_, A, cp, rfl, hown⟩
  case inl => omega
  clear CD hb1
  obtain ⟨i1, hcp1, hcp2, _⟩ := intsAt_own hown
  have HI1 := Lib.hid i1
  clear i1 hown
  have ht1 : Below w1.heap.size w1 w1 := Below.refl _ _
  go_wp2_with fail
  refine (CF _).mono ?_
  rintro e w2 ⟨rfl, hb2⟩
  have hc2 := hc1.trans (hb2.mono hc1.size)
  have ht2 := ht1.trans (hb2.mono ht1.size)
  clear hb2 CF
  go_wp2_with fail
  refine (CS _).mono ?_
  rintro e w3 ⟨rfl, rfl⟩
  have hc3 := hc2
  have ht3 := ht2
  clear CS
  go_upto_region 9 with (fail)
  generalize hm : (-1 : Int) = m1 at CG ⊢
  have hm1 : m1 < 0 := by omega
  have hq1 : decide (0 ≤ m1) = false := by simp; omega
  have hq2 : max m1 0 = 0 := by omega
  clear hm hm1
  go_wp2_with fail
  refine (CG _ (hT.below hc3 hT.1)).mono ?_
  rintro e w4 ⟨rfl, hb4⟩
  have hc4 := hc3.trans (hb4.mono hc3.size)
  have ht4 := ht3.trans (hb4.mono ht3.size)
  clear hb4 CG
  go_wp2_with fail
  refine (CZ _ (hT.below hc4 hT.1)).mono ?_
  rintro e w5 ⟨rfl, hb5⟩
  have hc5 := hc4.trans (hb5.mono hc4.size)
  have ht5 := ht4.trans (hb5.mono ht4.size)
  clear hb5 CZ
  have hc15 : Below w1.heap.size w1 w5 := ht5
  go_wp2_with fail
  refine (encode_any A dl.length cp dl _ rfl hcp1 hcp2 (by omega) (((HI1.out.below hc15 (Nat.le_refl _)).more hc15.size)) (hT.below hc5 hT.1)).mono ?_
  rw [HEV.out]
  rintro e w6 ⟨rfl, hb6⟩
  have hc6 := hc5.trans (hb6.mono hc5.size)
  clear hb6
  go_wp2_with fail
  refine (CC _ (hT.below hc6 hT.1)).mono ?_
  rintro e w7 ⟨rfl, hb7⟩
  have hc7 := hc6.trans (hb7.mono hc6.size)
  clear hb7
  go_wp2_with fail
  refine (awake_any _ (hT.below hc7 hT.1)).mono ?_
  rintro e w8 ⟨rfl, hb8⟩
  have hc8 := hc7.trans (hb8.mono hc7.size)
  clear hb8
  go_wp2
  go_ret
  exact ⟨rfl, hc8⟩

set_option maxRecDepth 100000 in
set_option maxHeartbeats 4000000 in
theorem law_decode_some_wrong (s : ByteArray) (p : Int) (w : World) (hs : s.size ≤ 500) (hT : LenT w) (q c k : Nat) (hq : p = q) (hp : q < s.size) (hst : stp (s.data.toList.drop q) = some (c, k)) (hd : (dec s.data.toList).2 < s.size) : Calls Tryd.prog 6 #[.string s, .int .i64 p] w (Fine w) := by
  subst hq
  have CS := fun W (h : LenT W) => step_in s q W hp (by omega) h
  rw [stpV_some hst] at CS
  have CR := fun W => rstep_any (s.extract q s.size) W (by rw [Lib.size_eq, ext_to_end, List.length_drop, ← Lib.size_eq]; omega)
  rw [ext_to_end, rstV_some hst] at CR
  clear hst
  have hq1 : (q : Int) < (s.size : Int) := by omega
  have CD := decode_any s w (by omega) hT
  unfold DecAt at CD
  have hdl := (dec_flat s.data.toList _ (Nat.le_refl _))
  have hdc : (dec s.data.toList).1.length ≤ 500 := by
    have h1 := flat_ge (dec s.data.toList).1
    rw [hdl.2.1, List.length_take, ← Lib.size_eq] at h1
    omega
  clear hdl
  have CF := fun W => rfirst_any s W (by omega)
  have CG := fun W (h : LenT W) => first_any s W (by omega) h
  have CZ := fun W (h : LenT W) => size_any s W (by omega) h
  rw [firstI_wrong (by rw [← Lib.size_eq]; exact hd)] at CF CG
  obtain ⟨D, hD⟩ : ∃ D, D = dec s.data.toList := ⟨_, rfl⟩
  rw [← hD] at CD CF CZ hdc hd
  rw [← hD] at CG
  clear hD
  obtain ⟨dl, dn⟩ := D
  simp only at CD CF CZ hdc hd
  simp only at CG
  
  go_enter Tryd.func6, Tryd.ntmps6
  go_wp2_with fail
  refine CD.mono ?_
  rintro e w1 ⟨hb1, hcase⟩
  have hc1 := hb1
  rcases hcase with ⟨_, rfl⟩ | ⟨h, _⟩
  case inr => omega
  clear CD hb1
  have ht1 : Below w1.heap.size w1 w1 := Below.refl _ _
  go_wp2_with fail
  refine (CF _).mono ?_
  rintro e w2 ⟨rfl, hb2⟩
  have hc2 := hc1.trans (hb2.mono hc1.size)
  have ht2 := ht1.trans (hb2.mono ht1.size)
  clear hb2 CF
  go_wp2_with fail
  refine (CS _ (hT.below hc2 hT.1)).mono ?_
  rintro e w3 ⟨rfl, hb3⟩
  have hc3 := hc2.trans (hb3.mono hc2.size)
  have ht3 := ht2.trans (hb3.mono ht2.size)
  clear hb3 CS
  go_wp2_with fail
  refine (CR _).mono ?_
  rintro e w3' ⟨rfl, hb3'⟩
  have hc3' := hc3.trans (hb3'.mono hc3.size)
  have ht3' := ht3.trans (hb3'.mono ht3.size)
  clear hb3' CR hc3 ht3
  have hc3 := hc3'
  have ht3 := ht3'
  clear hc3' ht3'
  go_wp2_with fail
  refine (CG _ (hT.below hc3 hT.1)).mono ?_
  rintro e w4 ⟨rfl, hb4⟩
  have hc4 := hc3.trans (hb4.mono hc3.size)
  have ht4 := ht3.trans (hb4.mono ht3.size)
  clear hb4 CG
  go_wp2_with fail
  refine (CZ _ (hT.below hc4 hT.1)).mono ?_
  rintro e w5 ⟨rfl, hb5⟩
  have hc5 := hc4.trans (hb5.mono hc4.size)
  have ht5 := ht4.trans (hb5.mono ht4.size)
  clear hb5 CZ
  go_wp2_with fail
  refine (awake_any _ (hT.below hc5 hT.1)).mono ?_
  rintro e w6 ⟨rfl, hb6⟩
  have hc6 := hc5.trans (hb6.mono hc5.size)
  clear hb6
  go_wp2
  go_ret
  exact ⟨rfl, hc6⟩

set_option maxRecDepth 100000 in
set_option maxHeartbeats 4000000 in
theorem law_decode_some_right (s : ByteArray) (p : Int) (w : World) (hs : s.size ≤ 500) (hT : LenT w) (q c k : Nat) (hq : p = q) (hp : q < s.size) (hst : stp (s.data.toList.drop q) = some (c, k)) (hd : (dec s.data.toList).2 = s.size) : Calls Tryd.prog 6 #[.string s, .int .i64 p] w (Fine w) := by
  subst hq
  have CS := fun W (h : LenT W) => step_in s q W hp (by omega) h
  rw [stpV_some hst] at CS
  have CR := fun W => rstep_any (s.extract q s.size) W (by rw [Lib.size_eq, ext_to_end, List.length_drop, ← Lib.size_eq]; omega)
  rw [ext_to_end, rstV_some hst] at CR
  clear hst
  have hq1 : (q : Int) < (s.size : Int) := by omega
  have CD := decode_any s w (by omega) hT
  unfold DecAt at CD
  have hdl := (dec_flat s.data.toList _ (Nat.le_refl _))
  have hdc : (dec s.data.toList).1.length ≤ 500 := by
    have h1 := flat_ge (dec s.data.toList).1
    rw [hdl.2.1, List.length_take, ← Lib.size_eq] at h1
    omega
  clear hdl
  have hflat := dec_flat s.data.toList _ (Nat.le_refl _)
  have CC := fun W (h : LenT W) => columns_any s W (by omega) h
  rw [cols_dec _ _ (Nat.le_refl _) (hd.trans (Lib.size_eq s))] at CC
  have hEV : encV (dec s.data.toList).1 = .tuple #[.string s, .bool true] := by
    rw [encV_yes (List.all_eq_true.2 hflat.1), hflat.2.1, List.take_of_length_le (by rw [← Lib.size_eq, hd]; exact Nat.le_refl _), Lib.mk_data]
  have q0 : (s.toList == s.toList) = true := by simp
  have CF := fun W => rfirst_any s W (by omega)
  have CG := fun W (h : LenT W) => first_any s W (by omega) h
  have CZ := fun W (h : LenT W) => size_any s W (by omega) h
  rw [firstI_right (hd.trans (Lib.size_eq s))] at CF CG
  obtain ⟨D, hD⟩ : ∃ D, D = dec s.data.toList := ⟨_, rfl⟩
  rw [← hD] at CD CF CZ hdc hd
  rw [← hD] at CC hEV
  clear hD
  obtain ⟨dl, dn⟩ := D
  simp only at CD CF CZ hdc hd
  simp only at CC hEV
  clear hflat; have HEV := Lib.hid hEV; clear hEV
  go_enter Tryd.func6, Tryd.ntmps6
  go_wp2_with fail
  refine CD.mono ?_
  rintro e w1 ⟨hb1, hcase⟩
  have hc1 := hb1
  rcases hcase with ⟨h, _⟩ | ⟨_, A, cp, rfl, hown⟩
  case inl => omega
  clear CD hb1
  obtain ⟨i1, hcp1, hcp2, _⟩ := intsAt_own hown
  have HI1 := Lib.hid i1
  clear i1 hown
  have ht1 : Below w1.heap.size w1 w1 := Below.refl _ _
  go_wp2_with fail
  refine (CF _).mono ?_
  rintro e w2 ⟨rfl, hb2⟩
  have hc2 := hc1.trans (hb2.mono hc1.size)
  have ht2 := ht1.trans (hb2.mono ht1.size)
  clear hb2 CF
  go_wp2_with fail
  refine (CS _ (hT.below hc2 hT.1)).mono ?_
  rintro e w3 ⟨rfl, hb3⟩
  have hc3 := hc2.trans (hb3.mono hc2.size)
  have ht3 := ht2.trans (hb3.mono ht2.size)
  clear hb3 CS
  go_wp2_with fail
  refine (CR _).mono ?_
  rintro e w3' ⟨rfl, hb3'⟩
  have hc3' := hc3.trans (hb3'.mono hc3.size)
  have ht3' := ht3.trans (hb3'.mono ht3.size)
  clear hb3' CR hc3 ht3
  have hc3 := hc3'
  have ht3 := ht3'
  clear hc3' ht3'
  go_wp2_with fail
  refine (CG _ (hT.below hc3 hT.1)).mono ?_
  rintro e w4 ⟨rfl, hb4⟩
  have hc4 := hc3.trans (hb4.mono hc3.size)
  have ht4 := ht3.trans (hb4.mono ht3.size)
  clear hb4 CG
  go_wp2_with fail
  refine (CZ _ (hT.below hc4 hT.1)).mono ?_
  rintro e w5 ⟨rfl, hb5⟩
  have hc5 := hc4.trans (hb5.mono hc4.size)
  have ht5 := ht4.trans (hb5.mono ht4.size)
  clear hb5 CZ
  have hc15 : Below w1.heap.size w1 w5 := ht5
  go_wp2_with fail
  refine (encode_any A dl.length cp dl _ rfl hcp1 hcp2 (by omega) (((HI1.out.below hc15 (Nat.le_refl _)).more hc15.size)) (hT.below hc5 hT.1)).mono ?_
  rw [HEV.out]
  rintro e w6 ⟨rfl, hb6⟩
  have hc6 := hc5.trans (hb6.mono hc5.size)
  clear hb6
  go_wp2_with fail
  refine (CC _ (hT.below hc6 hT.1)).mono ?_
  rintro e w7 ⟨rfl, hb7⟩
  have hc7 := hc6.trans (hb7.mono hc6.size)
  clear hb7
  go_wp2_with fail
  refine (awake_any _ (hT.below hc7 hT.1)).mono ?_
  rintro e w8 ⟨rfl, hb8⟩
  have hc8 := hc7.trans (hb8.mono hc7.size)
  clear hb8
  go_wp2
  go_ret
  exact ⟨rfl, hc8⟩

set_option maxRecDepth 100000 in
set_option maxHeartbeats 4000000 in
theorem law_decode_none_wrong (s : ByteArray) (p : Int) (w : World) (hs : s.size ≤ 500) (hT : LenT w) (q : Nat) (hq : p = q) (hp : q < s.size) (hst : stp (s.data.toList.drop q) = none) (hd : (dec s.data.toList).2 < s.size) : Calls Tryd.prog 6 #[.string s, .int .i64 p] w (Fine w) := by
  subst hq
  have CS := fun W (h : LenT W) => step_in s q W hp (by omega) h
  rw [stpV_none hst] at CS
  have CR := fun W => rstep_any (s.extract q s.size) W (by rw [Lib.size_eq, ext_to_end, List.length_drop, ← Lib.size_eq]; omega)
  rw [ext_to_end, rstV_none hst] at CR
  clear hst
  have hq1 : (q : Int) < (s.size : Int) := by omega
  have CD := decode_any s w (by omega) hT
  unfold DecAt at CD
  have hdl := (dec_flat s.data.toList _ (Nat.le_refl _))
  have hdc : (dec s.data.toList).1.length ≤ 500 := by
    have h1 := flat_ge (dec s.data.toList).1
    rw [hdl.2.1, List.length_take, ← Lib.size_eq] at h1
    omega
  clear hdl
  have CF := fun W => rfirst_any s W (by omega)
  have CG := fun W (h : LenT W) => first_any s W (by omega) h
  have CZ := fun W (h : LenT W) => size_any s W (by omega) h
  rw [firstI_wrong (by rw [← Lib.size_eq]; exact hd)] at CF CG
  obtain ⟨D, hD⟩ : ∃ D, D = dec s.data.toList := ⟨_, rfl⟩
  rw [← hD] at CD CF CZ hdc hd
  rw [← hD] at CG
  clear hD
  obtain ⟨dl, dn⟩ := D
  simp only at CD CF CZ hdc hd
  simp only at CG
  
  go_enter Tryd.func6, Tryd.ntmps6
  go_wp2_with fail
  refine CD.mono ?_
  rintro e w1 ⟨hb1, hcase⟩
  have hc1 := hb1
  rcases hcase with ⟨_, rfl⟩ | ⟨h, _⟩
  case inr => omega
  clear CD hb1
  have ht1 : Below w1.heap.size w1 w1 := Below.refl _ _
  go_wp2_with fail
  refine (CF _).mono ?_
  rintro e w2 ⟨rfl, hb2⟩
  have hc2 := hc1.trans (hb2.mono hc1.size)
  have ht2 := ht1.trans (hb2.mono ht1.size)
  clear hb2 CF
  go_wp2_with fail
  refine (CS _ (hT.below hc2 hT.1)).mono ?_
  rintro e w3 ⟨rfl, hb3⟩
  have hc3 := hc2.trans (hb3.mono hc2.size)
  have ht3 := ht2.trans (hb3.mono ht2.size)
  clear hb3 CS
  go_wp2_with fail
  refine (CR _).mono ?_
  rintro e w3' ⟨rfl, hb3'⟩
  have hc3' := hc3.trans (hb3'.mono hc3.size)
  have ht3' := ht3.trans (hb3'.mono ht3.size)
  clear hb3' CR hc3 ht3
  have hc3 := hc3'
  have ht3 := ht3'
  clear hc3' ht3'
  go_upto_region 9 with (fail)
  generalize hm : (-1 : Int) = m1 at ⊢
  have hm1 : m1 < 0 := by omega
  have hq1 : decide (0 ≤ m1) = false := by simp; omega
  have hq2 : max m1 0 = 0 := by omega
  clear hm hm1
  go_wp2_with fail
  refine (CG _ (hT.below hc3 hT.1)).mono ?_
  rintro e w4 ⟨rfl, hb4⟩
  have hc4 := hc3.trans (hb4.mono hc3.size)
  have ht4 := ht3.trans (hb4.mono ht3.size)
  clear hb4 CG
  go_wp2_with fail
  refine (CZ _ (hT.below hc4 hT.1)).mono ?_
  rintro e w5 ⟨rfl, hb5⟩
  have hc5 := hc4.trans (hb5.mono hc4.size)
  have ht5 := ht4.trans (hb5.mono ht4.size)
  clear hb5 CZ
  go_wp2_with fail
  refine (awake_any _ (hT.below hc5 hT.1)).mono ?_
  rintro e w6 ⟨rfl, hb6⟩
  have hc6 := hc5.trans (hb6.mono hc5.size)
  clear hb6
  go_wp2
  go_ret
  exact ⟨rfl, hc6⟩

set_option maxRecDepth 100000 in
set_option maxHeartbeats 4000000 in
theorem law_decode_none_right (s : ByteArray) (p : Int) (w : World) (hs : s.size ≤ 500) (hT : LenT w) (q : Nat) (hq : p = q) (hp : q < s.size) (hst : stp (s.data.toList.drop q) = none) (hd : (dec s.data.toList).2 = s.size) : Calls Tryd.prog 6 #[.string s, .int .i64 p] w (Fine w) := by
  subst hq
  have CS := fun W (h : LenT W) => step_in s q W hp (by omega) h
  rw [stpV_none hst] at CS
  have CR := fun W => rstep_any (s.extract q s.size) W (by rw [Lib.size_eq, ext_to_end, List.length_drop, ← Lib.size_eq]; omega)
  rw [ext_to_end, rstV_none hst] at CR
  clear hst
  have hq1 : (q : Int) < (s.size : Int) := by omega
  have CD := decode_any s w (by omega) hT
  unfold DecAt at CD
  have hdl := (dec_flat s.data.toList _ (Nat.le_refl _))
  have hdc : (dec s.data.toList).1.length ≤ 500 := by
    have h1 := flat_ge (dec s.data.toList).1
    rw [hdl.2.1, List.length_take, ← Lib.size_eq] at h1
    omega
  clear hdl
  have hflat := dec_flat s.data.toList _ (Nat.le_refl _)
  have CC := fun W (h : LenT W) => columns_any s W (by omega) h
  rw [cols_dec _ _ (Nat.le_refl _) (hd.trans (Lib.size_eq s))] at CC
  have hEV : encV (dec s.data.toList).1 = .tuple #[.string s, .bool true] := by
    rw [encV_yes (List.all_eq_true.2 hflat.1), hflat.2.1, List.take_of_length_le (by rw [← Lib.size_eq, hd]; exact Nat.le_refl _), Lib.mk_data]
  have q0 : (s.toList == s.toList) = true := by simp
  have CF := fun W => rfirst_any s W (by omega)
  have CG := fun W (h : LenT W) => first_any s W (by omega) h
  have CZ := fun W (h : LenT W) => size_any s W (by omega) h
  rw [firstI_right (hd.trans (Lib.size_eq s))] at CF CG
  obtain ⟨D, hD⟩ : ∃ D, D = dec s.data.toList := ⟨_, rfl⟩
  rw [← hD] at CD CF CZ hdc hd
  rw [← hD] at CC hEV
  clear hD
  obtain ⟨dl, dn⟩ := D
  simp only at CD CF CZ hdc hd
  simp only at CC hEV
  clear hflat; have HEV := Lib.hid hEV; clear hEV
  go_enter Tryd.func6, Tryd.ntmps6
  go_wp2_with fail
  refine CD.mono ?_
  rintro e w1 ⟨hb1, hcase⟩
  have hc1 := hb1
  rcases hcase with ⟨h, _⟩ | ⟨_, A, cp, rfl, hown⟩
  case inl => omega
  clear CD hb1
  obtain ⟨i1, hcp1, hcp2, _⟩ := intsAt_own hown
  have HI1 := Lib.hid i1
  clear i1 hown
  have ht1 : Below w1.heap.size w1 w1 := Below.refl _ _
  go_wp2_with fail
  refine (CF _).mono ?_
  rintro e w2 ⟨rfl, hb2⟩
  have hc2 := hc1.trans (hb2.mono hc1.size)
  have ht2 := ht1.trans (hb2.mono ht1.size)
  clear hb2 CF
  go_wp2_with fail
  refine (CS _ (hT.below hc2 hT.1)).mono ?_
  rintro e w3 ⟨rfl, hb3⟩
  have hc3 := hc2.trans (hb3.mono hc2.size)
  have ht3 := ht2.trans (hb3.mono ht2.size)
  clear hb3 CS
  go_wp2_with fail
  refine (CR _).mono ?_
  rintro e w3' ⟨rfl, hb3'⟩
  have hc3' := hc3.trans (hb3'.mono hc3.size)
  have ht3' := ht3.trans (hb3'.mono ht3.size)
  clear hb3' CR hc3 ht3
  have hc3 := hc3'
  have ht3 := ht3'
  clear hc3' ht3'
  go_upto_region 9 with (fail)
  generalize hm : (-1 : Int) = m1 at CG ⊢
  have hm1 : m1 < 0 := by omega
  have hq1 : decide (0 ≤ m1) = false := by simp; omega
  have hq2 : max m1 0 = 0 := by omega
  clear hm hm1
  go_wp2_with fail
  refine (CG _ (hT.below hc3 hT.1)).mono ?_
  rintro e w4 ⟨rfl, hb4⟩
  have hc4 := hc3.trans (hb4.mono hc3.size)
  have ht4 := ht3.trans (hb4.mono ht3.size)
  clear hb4 CG
  go_wp2_with fail
  refine (CZ _ (hT.below hc4 hT.1)).mono ?_
  rintro e w5 ⟨rfl, hb5⟩
  have hc5 := hc4.trans (hb5.mono hc4.size)
  have ht5 := ht4.trans (hb5.mono ht4.size)
  clear hb5 CZ
  have hc15 : Below w1.heap.size w1 w5 := ht5
  go_wp2_with fail
  refine (encode_any A dl.length cp dl _ rfl hcp1 hcp2 (by omega) (((HI1.out.below hc15 (Nat.le_refl _)).more hc15.size)) (hT.below hc5 hT.1)).mono ?_
  rw [HEV.out]
  rintro e w6 ⟨rfl, hb6⟩
  have hc6 := hc5.trans (hb6.mono hc5.size)
  clear hb6
  go_wp2_with fail
  refine (CC _ (hT.below hc6 hT.1)).mono ?_
  rintro e w7 ⟨rfl, hb7⟩
  have hc7 := hc6.trans (hb7.mono hc6.size)
  clear hb7
  go_wp2_with fail
  refine (awake_any _ (hT.below hc7 hT.1)).mono ?_
  rintro e w8 ⟨rfl, hb8⟩
  have hc8 := hc7.trans (hb8.mono hc7.size)
  clear hb8
  go_wp2
  go_ret
  exact ⟨rfl, hc8⟩

set_option maxRecDepth 100000 in
set_option maxHeartbeats 2000000 in
theorem law_decode_long (s : ByteArray) (p : Int) (w : World) (hs0 : s.size ≤ 9223372036854775807) (hs : 500 < s.size) (hT : LenT w) : Calls Tryd.prog 6 #[.string s, .int .i64 p] w (Fine w) := by
  go_enter Tryd.func6, Tryd.ntmps6
  go_wp2_with fail
  refine (awake_any _ hT).mono ?_
  rintro e w1 ⟨rfl, hb⟩
  go_wp2
  go_ret
  exact ⟨rfl, hb⟩

theorem law_decode (s : ByteArray) (p : Int) (w : World) (hs0 : s.size ≤ 9223372036854775807) (hT : LenT w) : Calls Tryd.prog 6 #[.string s, .int .i64 p] w (Fine w) := by
  by_cases hs : 500 < s.size
  · exact law_decode_long s p w hs0 hs hT
  have hs' : s.size ≤ 500 := by omega
  have hle : (dec s.data.toList).2 ≤ s.size := by
    have := (dec_flat s.data.toList _ (Nat.le_refl _)).2.2.1
    rwa [← Lib.size_eq] at this
  by_cases hp : p < 0
  · by_cases hd : (dec s.data.toList).2 < s.size
    · exact law_decode_neg_wrong s p w hs' hT hp hd
    · exact law_decode_neg_right s p w hs' hT hp (by omega)
  by_cases hp' : (s.size : Int) ≤ p
  · by_cases hd : (dec s.data.toList).2 < s.size
    · exact law_decode_big_wrong s p w hs' hT hp' hd
    · exact law_decode_big_right s p w hs' hT hp' (by omega)
  · obtain ⟨q, hq⟩ : ∃ q : Nat, p = q := ⟨p.toNat, by omega⟩
    cases hst : stp (s.data.toList.drop q) with
    | some r =>
      obtain ⟨c, k⟩ := r
      by_cases hd : (dec s.data.toList).2 < s.size
      · exact law_decode_some_wrong s p w hs' hT q c k hq (by omega) hst hd
      · exact law_decode_some_right s p w hs' hT q c k hq (by omega) hst (by omega)
    | none =>
      by_cases hd : (dec s.data.toList).2 < s.size
      · exact law_decode_none_wrong s p w hs' hT q hq (by omega) hst hd
      · exact law_decode_none_right s p w hs' hT q hq (by omega) hst (by omega)
end Go.Proofs.YtifehdoindbkmaaDoor
