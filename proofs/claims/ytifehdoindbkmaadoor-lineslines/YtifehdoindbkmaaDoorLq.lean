/- The law LinesLines, walked. -/
import Derived.Test.YtifehdoindbkmaaDoorLp
namespace Go.Proofs.YtifehdoindbkmaaDoor
open Go.RowKit Go.Shelf

theorem bgs_at_hit {s : ByteArray} {i : Nat} (hi : i < s.size) (h : s.data.toList[i]? = some 10) : (bgs s)[lnOf s i]? = some ((i : Int) + 1) := by
  obtain ⟨r, h1, _⟩ := nls_more (l := s.data.toList) (show i + 1 ≤ s.size by omega)
  unfold bgs lnOf
  rw [h1, nls_hit h, List.append_assoc, List.getElem?_append_right (Nat.le_refl _)]
  simp
theorem lnOf_hit {s : ByteArray} {i : Nat} (h : s.data.toList[i]? = some 10) : lnOf s (i + 1) = lnOf s i + 1 := by
  unfold lnOf; rw [nls_hit h, List.length_append]; rfl
theorem lnOf_miss {s : ByteArray} {i : Nat} (h : s.data.toList[i]? ≠ some 10) : lnOf s (i + 1) = lnOf s i := by
  unfold lnOf; rw [nls_miss h]
theorem lnOf_all (s : ByteArray) : lnOf s s.size = (bgs s).length := rfl

theorem end_of {s : ByteArray} {e k : Nat} (hl : lnOf s e = k) (he : e ≤ s.size) (h : e = s.size ∨ s.data.toList[e]? = some 10) : enOf s k = e := by
  unfold enOf
  by_cases hes : e = s.size
  · subst hes
    rw [lnOf_all] at hl
    rw [if_pos hl.symm]
  · have h10 := h.resolve_left hes
    have hh := bgs_at_hit (by omega) h10
    rw [hl] at hh
    have hlt := (List.getElem?_eq_some_iff.1 hh).1
    rw [if_neg (by omega), hh]
    simp

theorem lnB_at {s : ByteArray} {f t j : Nat} {c : UInt8} (h : f + j < t) (hc : s.data.toList[f + j]? = some c) : (lnB s f t).drop j = c :: (lnB s f t).drop (j + 1) := by
  have h1 : (lnB s f t)[j]? = some c := by
    unfold lnB
    rw [List.getElem?_take, if_pos (by omega), List.getElem?_drop]; exact hc
  obtain ⟨h2, h3⟩ := List.getElem?_eq_some_iff.1 h1
  rw [← h3]; exact List.drop_eq_getElem_cons h2
theorem lnB_end {s : ByteArray} {f t j : Nat} (h : t ≤ f + j) : (lnB s f t).drop j = [] := by
  apply List.drop_of_length_le
  unfold lnB
  rw [List.length_take]; omega
theorem u8ne {c : UInt8} {m : Nat} (hm : m < 256) (h : c ≠ UInt8.ofNat m) : ((c.toNat : Int) == m) = false := by
  rw [beq_eq_false_iff_ne]
  intro e
  apply h
  apply UInt8.toNat_inj.1
  rw [UInt8.toNat_ofNat', Nat.mod_eq_of_lt hm]
  omega

/-- What the law's first loop keeps: i bytes are behind, k lines; t is looked for. -/
def R1 (s : ByteArray) (t i k : Nat) : Prop :=
  (i ≤ s.size → k = lnOf s i) ∧ (i = s.size + 1 → k = (bgs s).length + 1) ∧ k ≤ t ∧ (k = t → i ≤ s.size → bgOf s t = i)
theorem R1.start (s : ByteArray) (t : Nat) : R1 s t 0 0 := by
  refine ⟨fun _ => rfl, fun h => by omega, Nat.zero_le _, fun h _ => ?_⟩
  subst h; rfl
theorem R1.last {s : ByteArray} {t k : Nat} (h : R1 s t s.size k) (hk : k < t) : R1 s t (s.size + 1) (k + 1) := by
  obtain ⟨h1, _, _, _⟩ := h
  refine ⟨fun h => by omega, fun _ => ?_, by omega, fun _ h => by omega⟩
  rw [h1 (Nat.le_refl _), lnOf_all]
theorem R1.hit {s : ByteArray} {t i k : Nat} (h : R1 s t i k) (hk : k < t) (hi : i < s.size) (hc : s.data.toList[i]? = some 10) : R1 s t (i + 1) (k + 1) := by
  obtain ⟨h1, _, _, _⟩ := h
  have e := h1 (by omega)
  refine ⟨fun _ => by rw [lnOf_hit hc, e], fun h => ?_, by omega, fun hkt _ => ?_⟩
  · obtain rfl : i = s.size := by omega
    omega
  · unfold bgOf
    rw [if_neg (by omega), ← hkt, Nat.add_sub_cancel, e, bgs_at_hit hi hc]
    rfl
theorem R1.miss {s : ByteArray} {t i k : Nat} (h : R1 s t i k) (hk : k < t) (hi : i < s.size) (hc : s.data.toList[i]? ≠ some 10) : R1 s t (i + 1) k := by
  obtain ⟨h1, _, h3, _⟩ := h
  have e := h1 (by omega)
  exact ⟨fun _ => by rw [lnOf_miss hc, e], fun h => by omega, h3, fun hkt => by omega⟩

theorem at_of {s : ByteArray} : ∀ (j : Nat) (hj : j < s.size) (c : UInt8), s.data.toList[j]? = some c → s[j] = c := by
  intro j hj c hc
  obtain ⟨h1, h2⟩ := List.getElem?_eq_some_iff.1 hc
  rw [← h2]; simp; rfl
theorem byte_at (s : ByteArray) {j : Nat} (hj : j < s.size) : ∃ c, s.data.toList[j]? = some c := ⟨_, List.getElem?_eq_getElem (by rw [← Lib.size_eq]; exact hj)⟩
theorem ten_ne {c : UInt8} (h : c ≠ 10) : ((c.toNat : Int) == 10) = false ∧ ((c.toNat : Int) != 10) = true := by
  have h1 : ((c.toNat : Int) == 10) = false := by
    rw [beq_eq_false_iff_ne]
    intro e
    apply h
    apply UInt8.toNat_inj.1
    have : c.toNat = 10 := by omega
    rw [this]; rfl
  exact ⟨h1, by simp [bne, h1]⟩

set_option maxRecDepth 100000 in
set_option maxHeartbeats 2000000 in
theorem law_lines_long (s : ByteArray) (n col : Int) (w : World) (hs0 : s.size ≤ 9223372036854775807) (hs : 2000 < s.size) : Calls Tryd.prog 3 #[.string s, .int .i64 n, .int .i64 col] w (Fine w) := by
  go_enter Tryd.func3, Tryd.ntmps3
  go_wp2_with fail
  refine (awake_any _).mono ?_
  rintro e w1 ⟨rfl, hb⟩
  go_wp2
  go_ret
  exact ⟨rfl, hb⟩

set_option maxRecDepth 100000 in
set_option maxHeartbeats 2000000 in
theorem law_lines_neg (s : ByteArray) (n col : Int) (w : World) (hs : s.size ≤ 2000) (h0 : n < 0) : Calls Tryd.prog 3 #[.string s, .int .i64 n, .int .i64 col] w (Fine w) := by
  have HN := new_any s w (by omega)
  have hn : n < 0 ∨ ((bgs s).length : Int) < n := .inl h0
  go_enter Tryd.func3, Tryd.ntmps3
  go_wp2_with fail
  refine HN.mono ?_
  rintro e w1 ⟨X, A, c, rfl, hX, hb⟩
  clear HN
  go_wp2_with fail
  go_loop [8, 9] (fun i k => i = .int .i64 0 ∧ k = .int .i64 0) (fun _ _ => 0)
  case atStart => exact ⟨rfl, rfl⟩
  case round =>
    obtain ⟨rfl, rfl⟩ := hrel
    have HLi := line_no w.heap.size X c s A n w1 hX hn (by omega)
    go_wp2_with fail
    refine HLi.mono ?_
    rintro e w2 ⟨rfl, hb2⟩
    clear HLi
    have hb3 := hb.trans (hb2.mono hb.size)
    have hX2 := hX.below hb2
    have hb4 := hb3.alloc hb3.size (.cells #[.int .i64 0, .int .i64 0] 26)
    have hX3 := hX2.below ((Below.refl _ w2).alloc (Nat.le_refl _) (.cells #[.int .i64 0, .int .i64 0] 26))
    have HOf := offset_none w.heap.size X c s A n col _ hX3 hn (by omega)
    clear hb2
    go_wp2_with fail
    refine HOf.mono ?_
    rintro e w4 ⟨rfl, hb5⟩
    clear HOf
    have d0 : w4.cell? ⟨w2.heap.size, 0, none⟩ = some (.int .i64 0) := (hb5.cell (p := ⟨w2.heap.size, 0, none⟩) (by simp)).trans (by simp [go_sem])
    have d1 : w4.cell? ⟨w2.heap.size, 1, none⟩ = some (.int .i64 0) := (hb5.cell (p := ⟨w2.heap.size, 1, none⟩) (by simp)).trans (by simp [go_sem])
    have hb6 := hb4.trans (hb5.mono hb4.size)
    have hX4 := hX3.below hb5
    clear hb5
    have HIn := indent_no w.heap.size X c s A n _ hX4 hn (by omega)
    go_wp2_with fail
    refine HIn.mono ?_
    rintro e w5 ⟨rfl, hb7⟩
    have hb8 := hb6.trans (hb7.mono hb6.size)
    clear HIn hb7
    go_wp2_with fail
    refine (awake_any _).mono ?_
    rintro e w6 ⟨rfl, hb9⟩
    go_wp2
    go_ret
    exact ⟨rfl, hb8.trans (hb9.mono hb8.size)⟩

set_option maxRecDepth 100000 in
set_option maxHeartbeats 4000000 in
theorem law_lines_big (s : ByteArray) (t : Nat) (col : Int) (w : World) (hs : s.size ≤ 2000) (ht : (bgs s).length < t) (htm : (t : Int) ≤ 9223372036854775807) : Calls Tryd.prog 3 #[.string s, .int .i64 t, .int .i64 col] w (Fine w) := by
  have HN := new_any s w (by omega)
  have hbl := bgs_len s
  obtain ⟨n, hnt⟩ : ∃ n : Int, n = t := ⟨_, rfl⟩
  have hn : n < 0 ∨ ((bgs s).length : Int) < n := .inr (by omega)
  have hn0 : (0 : Int) ≤ t := by omega
  go_enter Tryd.func3, Tryd.ntmps3
  go_wp2_with fail
  refine HN.mono ?_
  rintro e w1 ⟨X, A, c, rfl, hX, hb⟩
  clear HN
  have HNT := Lib.hid hnt; clear hnt
  go_wp2_with fail
  go_loop [8, 9] (fun i k => ∃ a b : Nat, a ≤ s.size + 1 ∧ i = .int .i64 a ∧ k = .int .i64 b ∧ Hid (R1 s t a b)) (fun i _ => s.size + 1 - (intOf i).toNat)
  case atStart => exact ⟨0, 0, by omega, rfl, rfl, R1.start s t⟩
  case round =>
    obtain ⟨i, k, hi, rfl, rfl, HR⟩ := hrel
    have hkt : k ≤ t := HR.out.2.2.1
    by_cases hgo : i ≤ s.size ∧ k < t
    · obtain ⟨g1, g2⟩ := hgo
      by_cases he : i = s.size
      · subst he
        have q1 : ((s.size : Int) == (s.size : Int)) = true := by simp
        go_wp2
        go_round
        case rel => exact ⟨s.size + 1, k + 1, by omega, by go_num, by go_num, HR.out.last g2⟩
        case measure => simp [intOf]
      · have hlt : i < s.size := by omega
        obtain ⟨ch, hch⟩ := byte_at s hlt
        have hsi := at_of i hlt ch hch
        have q1 : ((i : Int) == (s.size : Int)) = false := by rw [beq_eq_false_iff_ne]; omega
        have HC := Lib.hid hch; clear hch
        by_cases h10 : ch = 10
        · subst h10
          have q2 : (((10 : UInt8).toNat : Int) == 10) = true := by decide
          go_wp2
          go_round
          case rel => exact ⟨i + 1, k + 1, by omega, by go_num, by go_num, HR.out.hit g2 hlt HC.out⟩
          case measure => simp [intOf]; omega
        · have q2 := (ten_ne h10).1
          have HNE := Lib.hid h10; clear h10
          go_wp2
          go_round
          case rel => exact ⟨i + 1, k, by omega, by go_num, rfl, HR.out.miss g2 hlt (by rw [HC.out]; intro e; injection e with e; exact HNE.out e)⟩
          case measure => simp [intOf]; omega
    · obtain rfl : i = s.size + 1 := by
        rcases Nat.lt_or_ge s.size i with h | h
        · omega
        · exfalso
          apply hgo
          refine ⟨h, ?_⟩
          have h1 := HR.out.1 h
          have h2 := lnOf_le s h
          omega
      have hcast : ((s.size + 1 : Nat) : Int) = (s.size : Int) + 1 := by omega
      rw [hcast]
      clear hgo hcast
      rw [← HNT.out] at hn0 ⊢
      have hnn : ¬ n < 0 := by omega
      have HLi := line_no w.heap.size X c s A n w1 hX hn (by omega)
      go_wp2_with fail
      refine HLi.mono ?_
      rintro e w2 ⟨rfl, hb2⟩
      clear HLi
      have hb3 := hb.trans (hb2.mono hb.size)
      have hX2 := hX.below hb2
      have hb4 := hb3.alloc hb3.size (.cells #[.int .i64 0, .int .i64 0] 26)
      have hX3 := hX2.below ((Below.refl _ w2).alloc (Nat.le_refl _) (.cells #[.int .i64 0, .int .i64 0] 26))
      have HOf := offset_none w.heap.size X c s A n col _ hX3 hn (by omega)
      clear hb2
      go_wp2_with fail
      refine HOf.mono ?_
      rintro e w4 ⟨rfl, hb5⟩
      clear HOf
      have d0 : w4.cell? ⟨w2.heap.size, 0, none⟩ = some (.int .i64 0) := (hb5.cell (p := ⟨w2.heap.size, 0, none⟩) (by simp)).trans (by simp [go_sem])
      have d1 : w4.cell? ⟨w2.heap.size, 1, none⟩ = some (.int .i64 0) := (hb5.cell (p := ⟨w2.heap.size, 1, none⟩) (by simp)).trans (by simp [go_sem])
      have hb6 := hb4.trans (hb5.mono hb4.size)
      have hX4 := hX3.below hb5
      clear hb5
      have HIn := indent_no w.heap.size X c s A n _ hX4 hn (by omega)
      go_wp2_with fail
      refine HIn.mono ?_
      rintro e w5 ⟨rfl, hb7⟩
      have hb8 := hb6.trans (hb7.mono hb6.size)
      clear HIn hb7
      go_wp2_with fail
      refine (awake_any _).mono ?_
      rintro e w6 ⟨rfl, hb9⟩
      go_wp2
      go_ret
      exact ⟨rfl, hb8.trans (hb9.mono hb8.size)⟩

set_option maxRecDepth 100000 in
set_option maxHeartbeats 4000000 in
theorem law_lines_in_no (s : ByteArray) (t : Nat) (col : Int) (w : World) (hs : s.size ≤ 2000) (ht : t ≤ (bgs s).length) (hc : col < 0 ∨ enOf s t - bgOf s t < col) : Calls Tryd.prog 3 #[.string s, .int .i64 t, .int .i64 col] w (Fine w) := by
  have HN := new_any s w (by omega)
  have hbl := bgs_len s
  have hn0 : (0 : Int) ≤ t := by omega
  have HC := Lib.hid hc; clear hc
  go_enter Tryd.func3, Tryd.ntmps3
  go_wp2_with fail
  refine HN.mono ?_
  rintro e w1 ⟨X, A, c, rfl, hX, hb⟩
  clear HN
  go_wp2_with fail
  go_loop [8, 9] (fun i k => ∃ a b : Nat, a ≤ s.size + 1 ∧ i = .int .i64 a ∧ k = .int .i64 b ∧ Hid (R1 s t a b)) (fun i _ => s.size + 1 - (intOf i).toNat)
  case atStart => exact ⟨0, 0, by omega, rfl, rfl, R1.start s t⟩
  case round =>
    obtain ⟨i, k, hi, rfl, rfl, HR⟩ := hrel
    have hkt : k ≤ t := HR.out.2.2.1
    by_cases hgo : i ≤ s.size ∧ k < t
    · obtain ⟨g1, g2⟩ := hgo
      by_cases he : i = s.size
      · subst he
        have q1 : ((s.size : Int) == (s.size : Int)) = true := by simp
        go_wp2
        go_round
        case rel => exact ⟨s.size + 1, k + 1, by omega, by go_num, by go_num, HR.out.last g2⟩
        case measure => simp [intOf]
      · have hlt : i < s.size := by omega
        obtain ⟨ch, hch⟩ := byte_at s hlt
        have hsi := at_of i hlt ch hch
        have q1 : ((i : Int) == (s.size : Int)) = false := by rw [beq_eq_false_iff_ne]; omega
        have HCh := Lib.hid hch; clear hch
        by_cases h10 : ch = 10
        · subst h10
          have q2 : (((10 : UInt8).toNat : Int) == 10) = true := by decide
          go_wp2
          go_round
          case rel => exact ⟨i + 1, k + 1, by omega, by go_num, by go_num, HR.out.hit g2 hlt HCh.out⟩
          case measure => simp [intOf]; omega
        · have q2 := (ten_ne h10).1
          have HNE := Lib.hid h10; clear h10
          go_wp2
          go_round
          case rel => exact ⟨i + 1, k, by omega, by go_num, rfl, HR.out.miss g2 hlt (by rw [HCh.out]; intro e; injection e with e; exact HNE.out e)⟩
          case measure => simp [intOf]; omega
    · have hile : i ≤ s.size := by
        rcases Nat.lt_or_ge s.size i with h | h
        · have := HR.out.2.1 (by omega); omega
        · exact h
      obtain rfl : k = t := by
        have h1 := HR.out.1 hile
        have : ¬ k < t := fun h => hgo ⟨hile, h⟩
        omega
      have hbg := HR.out.2.2.2 rfl hile
      have hln := (HR.out.1 hile).symm
      obtain ⟨e0, he0⟩ : ∃ e0 : Nat, enOf s k = e0 := ⟨(enOf s k).toNat, by have := le_en hile; rw [hln] at this; omega⟩
      have hie : i ≤ e0 := by have := le_en hile; rw [hln, he0] at this; omega
      have hes : e0 ≤ s.size := by have := (enOf_bd s k).2; rw [he0] at this; omega
      have HLi := line_yes w.heap.size X c k s A w1 hX ht (by omega)
      rw [hbg, he0] at HLi
      have HCC : Hid (col < 0 ∨ (e0 : Int) - i < col) := by have h := HC.out; rw [hbg, he0] at h; exact h
      have HBG := Lib.hid hbg; have HE0 := Lib.hid he0; have HLN := Lib.hid hln
      clear hbg he0 hln hgo HR hkt
      go_wp2_with fail
      refine HLi.mono ?_
      rintro e w2 ⟨rfl, hb2⟩
      clear HLi
      have hb3 := hb.trans (hb2.mono hb.size)
      have hX2 := hX.below hb2
      have hb4 := hb3.alloc hb3.size (.cells #[.int .i64 i, .int .i64 e0] 26)
      have hX3 := hX2.below ((Below.refl _ w2).alloc (Nat.le_refl _) (.cells #[.int .i64 i, .int .i64 e0] 26))
      have HOf := offset_no w.heap.size X c k s A col _ hX3 ht HC.out (by omega)
      
      clear hb2
      go_wp2_with fail
      refine HOf.mono ?_
      rintro e w4 ⟨rfl, hb5⟩
      clear HOf
      have d0 : w4.cell? ⟨w2.heap.size, 0, none⟩ = some (.int .i64 i) := (hb5.cell (p := ⟨w2.heap.size, 0, none⟩) (by simp)).trans (by simp [go_sem])
      have d1 : w4.cell? ⟨w2.heap.size, 1, none⟩ = some (.int .i64 e0) := (hb5.cell (p := ⟨w2.heap.size, 1, none⟩) (by simp)).trans (by simp [go_sem])
      have hb6 := hb4.trans (hb5.mono hb4.size)
      have hX4 := hX3.below hb5
      have HIn := indent_yes w.heap.size X c k i e0 s A _ hX4 ht HBG.out HE0.out hie hes (by omega)
      obtain ⟨IN, hIN⟩ : ∃ IN, IN = ((lnB s i e0).takeWhile blank).length := ⟨_, rfl⟩
      rw [← hIN] at HIn
      have HINH := Lib.hid hIN; clear hIN hb5
      have hi2 : (i : Int) ≤ (s.size : Int) := by omega
      go_wp2_with fail
      go_loop [14] (fun v => ∃ z : Nat, i ≤ z ∧ z ≤ s.size ∧ v = .int .i64 z ∧ Hid (lnOf s z = k)) (fun v => s.size - (intOf v).toNat)
      case atStart => exact ⟨i, Nat.le_refl _, hile, rfl, HLN.out⟩
      case round =>
        obtain ⟨z, hz1, hz2, rfl, HZ⟩ := hrel
        by_cases hzz : z < s.size ∧ s.data.toList[z]? ≠ some 10
        · obtain ⟨g1, g2⟩ := hzz
          obtain ⟨ch, hch⟩ := byte_at s g1
          have hsi := at_of z g1 ch hch
          have h10 : ch ≠ 10 := fun e => g2 (by rw [hch, e])
          have q2 := (ten_ne h10).2
          have HG2 := Lib.hid (lnOf_miss g2)
          clear hch h10 g2
          go_wp2
          go_round
          case rel => exact ⟨z + 1, by omega, by omega, by go_num, by show _ = _; rw [HG2.out]; exact HZ.out⟩
          case measure => simp [intOf]; omega
        · have hze : z = e0 := by
            have h1 := end_of HZ.out hz2 (by
              by_cases h : z < s.size
              · exact .inr (Classical.byContradiction fun h' => hzz ⟨h, h'⟩)
              · exact .inl (by omega))
            rw [HE0.out] at h1
            omega
          subst hze
          have hout : z < s.size → ∃ (h : z < s.size), s[z] = 10 := fun h => by
            refine ⟨h, at_of z h 10 ?_⟩
            exact Classical.byContradiction fun h' => hzz ⟨h, h'⟩
          have HOUT := Lib.hid hout
          clear hzz hout
          by_cases hzs : z < s.size
          · obtain ⟨_, hsz⟩ := HOUT.out hzs
            have q2 : (((10 : UInt8).toNat : Int) != 10) = false := by decide
            go_wp2_with fail
            go_loop [15] (fun v => ∃ j : Nat, i + j ≤ z ∧ v = .int .i64 j ∧ Hid (j + (((lnB s i z).drop j).takeWhile blank).length = IN)) (fun v => z - (intOf v).toNat)
            case atStart => exact ⟨0, by omega, rfl, by show _ = _; rw [HINH.out]; simp⟩
            case round =>
              obtain ⟨j, hj, rfl, HJ⟩ := hrel
              by_cases hjz : i + j < z
              · have hjs : i + j < s.size := by omega
                obtain ⟨ch, hch⟩ := byte_at s hjs
                have hsi := at_of (i + j) hjs ch hch
                have HD := Lib.hid (lnB_at hjz hch)
                clear hch
                have hji : (i : Int) + (j : Int) < (z : Int) := by omega
                have hjss : (i : Int) + (j : Int) < (s.size : Int) := by omega
                by_cases h32 : ch = 32
                · subst h32
                  have q3 : (((32 : UInt8).toNat : Int) == 32) = true := by decide
                  go_wp2
                  go_round
                  case rel => exact ⟨j + 1, by omega, by go_num, by show _ = _; rw [← HJ.out, HD.out]; simp [blank]; omega⟩
                  case measure => simp [intOf]; omega
                · have q3 := u8ne (m := 32) (by omega) h32
                  by_cases h9 : ch = 9
                  · subst h9
                    have q4 : (((9 : UInt8).toNat : Int) == 9) = true := by decide
                    have q5 : (((9 : UInt8).toNat : Int) == 32) = false := by decide
                    clear q3 h32
                    go_wp2
                    go_round
                    case rel => exact ⟨j + 1, by omega, by go_num, by show _ = _; rw [← HJ.out, HD.out]; simp [blank]; omega⟩
                    case measure => simp [intOf]; omega
                  · have q4 := u8ne (m := 9) (by omega) h9
                    have q5 : ((ch.toNat : Int) == 32) = false := q3
                    have q6 : ((ch.toNat : Int) == 9) = false := q4
                    obtain rfl : j = IN := by
                      have hbl : blank ch = false := by simp [blank, h32, h9]
                      rw [← HJ.out, HD.out, List.takeWhile_cons, hbl]; rfl
                    clear q3 q4 h32 h9
                    go_wp2_with fail
                    refine HIn.mono ?_
                    rintro e w5 ⟨rfl, hb7⟩
                    have hb8 := hb6.trans (hb7.mono hb6.size)
                    clear HIn hb7
                    by_cases hcn : col < 0
                    · go_wp2_with fail
                      refine (awake_any _).mono ?_
                      rintro e w6 ⟨rfl, hb9⟩
                      go_wp2
                      go_ret
                      exact ⟨rfl, hb8.trans (hb9.mono hb8.size)⟩
                    · have hcc := HCC.out.resolve_left hcn
                      go_wp2_with fail
                      refine (awake_any _).mono ?_
                      rintro e w6 ⟨rfl, hb9⟩
                      go_wp2
                      go_ret
                      exact ⟨rfl, hb8.trans (hb9.mono hb8.size)⟩
              · obtain rfl : j = IN := by rw [← HJ.out, lnB_end (by omega)]; rfl
                have hjz2 : ¬ ((i : Int) + (j : Int) < (z : Int)) := by omega
                go_wp2_with fail
                refine HIn.mono ?_
                rintro e w5 ⟨rfl, hb7⟩
                have hb8 := hb6.trans (hb7.mono hb6.size)
                clear HIn hb7
                by_cases hcn : col < 0
                · go_wp2_with fail
                  refine (awake_any _).mono ?_
                  rintro e w6 ⟨rfl, hb9⟩
                  go_wp2
                  go_ret
                  exact ⟨rfl, hb8.trans (hb9.mono hb8.size)⟩
                · have hcc := HCC.out.resolve_left hcn
                  go_wp2_with fail
                  refine (awake_any _).mono ?_
                  rintro e w6 ⟨rfl, hb9⟩
                  go_wp2
                  go_ret
                  exact ⟨rfl, hb8.trans (hb9.mono hb8.size)⟩
          · go_wp2_with fail
            go_loop [15] (fun v => ∃ j : Nat, i + j ≤ z ∧ v = .int .i64 j ∧ Hid (j + (((lnB s i z).drop j).takeWhile blank).length = IN)) (fun v => z - (intOf v).toNat)
            case atStart => exact ⟨0, by omega, rfl, by show _ = _; rw [HINH.out]; simp⟩
            case round =>
              obtain ⟨j, hj, rfl, HJ⟩ := hrel
              by_cases hjz : i + j < z
              · have hjs : i + j < s.size := by omega
                obtain ⟨ch, hch⟩ := byte_at s hjs
                have hsi := at_of (i + j) hjs ch hch
                have HD := Lib.hid (lnB_at hjz hch)
                clear hch
                have hji : (i : Int) + (j : Int) < (z : Int) := by omega
                have hjss : (i : Int) + (j : Int) < (s.size : Int) := by omega
                by_cases h32 : ch = 32
                · subst h32
                  have q3 : (((32 : UInt8).toNat : Int) == 32) = true := by decide
                  go_wp2
                  go_round
                  case rel => exact ⟨j + 1, by omega, by go_num, by show _ = _; rw [← HJ.out, HD.out]; simp [blank]; omega⟩
                  case measure => simp [intOf]; omega
                · have q3 := u8ne (m := 32) (by omega) h32
                  by_cases h9 : ch = 9
                  · subst h9
                    have q4 : (((9 : UInt8).toNat : Int) == 9) = true := by decide
                    have q5 : (((9 : UInt8).toNat : Int) == 32) = false := by decide
                    clear q3 h32
                    go_wp2
                    go_round
                    case rel => exact ⟨j + 1, by omega, by go_num, by show _ = _; rw [← HJ.out, HD.out]; simp [blank]; omega⟩
                    case measure => simp [intOf]; omega
                  · have q4 := u8ne (m := 9) (by omega) h9
                    have q5 : ((ch.toNat : Int) == 32) = false := q3
                    have q6 : ((ch.toNat : Int) == 9) = false := q4
                    obtain rfl : j = IN := by
                      have hbl : blank ch = false := by simp [blank, h32, h9]
                      rw [← HJ.out, HD.out, List.takeWhile_cons, hbl]; rfl
                    clear q3 q4 h32 h9
                    go_wp2_with fail
                    refine HIn.mono ?_
                    rintro e w5 ⟨rfl, hb7⟩
                    have hb8 := hb6.trans (hb7.mono hb6.size)
                    clear HIn hb7
                    by_cases hcn : col < 0
                    · go_wp2_with fail
                      refine (awake_any _).mono ?_
                      rintro e w6 ⟨rfl, hb9⟩
                      go_wp2
                      go_ret
                      exact ⟨rfl, hb8.trans (hb9.mono hb8.size)⟩
                    · have hcc := HCC.out.resolve_left hcn
                      go_wp2_with fail
                      refine (awake_any _).mono ?_
                      rintro e w6 ⟨rfl, hb9⟩
                      go_wp2
                      go_ret
                      exact ⟨rfl, hb8.trans (hb9.mono hb8.size)⟩
              · obtain rfl : j = IN := by rw [← HJ.out, lnB_end (by omega)]; rfl
                have hjz2 : ¬ ((i : Int) + (j : Int) < (z : Int)) := by omega
                go_wp2_with fail
                refine HIn.mono ?_
                rintro e w5 ⟨rfl, hb7⟩
                have hb8 := hb6.trans (hb7.mono hb6.size)
                clear HIn hb7
                by_cases hcn : col < 0
                · go_wp2_with fail
                  refine (awake_any _).mono ?_
                  rintro e w6 ⟨rfl, hb9⟩
                  go_wp2
                  go_ret
                  exact ⟨rfl, hb8.trans (hb9.mono hb8.size)⟩
                · have hcc := HCC.out.resolve_left hcn
                  go_wp2_with fail
                  refine (awake_any _).mono ?_
                  rintro e w6 ⟨rfl, hb9⟩
                  go_wp2
                  go_ret
                  exact ⟨rfl, hb8.trans (hb9.mono hb8.size)⟩

set_option maxRecDepth 100000 in
set_option maxHeartbeats 4000000 in
theorem law_lines_in_yes (s : ByteArray) (t : Nat) (col : Int) (w : World) (hs : s.size ≤ 2000) (ht : t ≤ (bgs s).length) (hc0 : 0 ≤ col) (hc1 : col ≤ enOf s t - bgOf s t) : Calls Tryd.prog 3 #[.string s, .int .i64 t, .int .i64 col] w (Fine w) := by
  have HN := new_any s w (by omega)
  have hbl := bgs_len s
  have hn0 : (0 : Int) ≤ t := by omega
  skip
  go_enter Tryd.func3, Tryd.ntmps3
  go_wp2_with fail
  refine HN.mono ?_
  rintro e w1 ⟨X, A, c, rfl, hX, hb⟩
  clear HN
  go_wp2_with fail
  go_loop [8, 9] (fun i k => ∃ a b : Nat, a ≤ s.size + 1 ∧ i = .int .i64 a ∧ k = .int .i64 b ∧ Hid (R1 s t a b)) (fun i _ => s.size + 1 - (intOf i).toNat)
  case atStart => exact ⟨0, 0, by omega, rfl, rfl, R1.start s t⟩
  case round =>
    obtain ⟨i, k, hi, rfl, rfl, HR⟩ := hrel
    have hkt : k ≤ t := HR.out.2.2.1
    by_cases hgo : i ≤ s.size ∧ k < t
    · obtain ⟨g1, g2⟩ := hgo
      by_cases he : i = s.size
      · subst he
        have q1 : ((s.size : Int) == (s.size : Int)) = true := by simp
        go_wp2
        go_round
        case rel => exact ⟨s.size + 1, k + 1, by omega, by go_num, by go_num, HR.out.last g2⟩
        case measure => simp [intOf]
      · have hlt : i < s.size := by omega
        obtain ⟨ch, hch⟩ := byte_at s hlt
        have hsi := at_of i hlt ch hch
        have q1 : ((i : Int) == (s.size : Int)) = false := by rw [beq_eq_false_iff_ne]; omega
        have HCh := Lib.hid hch; clear hch
        by_cases h10 : ch = 10
        · subst h10
          have q2 : (((10 : UInt8).toNat : Int) == 10) = true := by decide
          go_wp2
          go_round
          case rel => exact ⟨i + 1, k + 1, by omega, by go_num, by go_num, HR.out.hit g2 hlt HCh.out⟩
          case measure => simp [intOf]; omega
        · have q2 := (ten_ne h10).1
          have HNE := Lib.hid h10; clear h10
          go_wp2
          go_round
          case rel => exact ⟨i + 1, k, by omega, by go_num, rfl, HR.out.miss g2 hlt (by rw [HCh.out]; intro e; injection e with e; exact HNE.out e)⟩
          case measure => simp [intOf]; omega
    · have hile : i ≤ s.size := by
        rcases Nat.lt_or_ge s.size i with h | h
        · have := HR.out.2.1 (by omega); omega
        · exact h
      obtain rfl : k = t := by
        have h1 := HR.out.1 hile
        have : ¬ k < t := fun h => hgo ⟨hile, h⟩
        omega
      have hbg := HR.out.2.2.2 rfl hile
      have hln := (HR.out.1 hile).symm
      obtain ⟨e0, he0⟩ : ∃ e0 : Nat, enOf s k = e0 := ⟨(enOf s k).toNat, by have := le_en hile; rw [hln] at this; omega⟩
      have hie : i ≤ e0 := by have := le_en hile; rw [hln, he0] at this; omega
      have hes : e0 ≤ s.size := by have := (enOf_bd s k).2; rw [he0] at this; omega
      have HLi := line_yes w.heap.size X c k s A w1 hX ht (by omega)
      rw [hbg, he0] at HLi
      rw [hbg, he0] at hc1
      have HBG := Lib.hid hbg; have HE0 := Lib.hid he0; have HLN := Lib.hid hln
      clear hbg he0 hln hgo HR hkt
      go_wp2_with fail
      refine HLi.mono ?_
      rintro e w2 ⟨rfl, hb2⟩
      clear HLi
      have hb3 := hb.trans (hb2.mono hb.size)
      have hX2 := hX.below hb2
      have hb4 := hb3.alloc hb3.size (.cells #[.int .i64 i, .int .i64 e0] 26)
      have hX3 := hX2.below ((Below.refl _ w2).alloc (Nat.le_refl _) (.cells #[.int .i64 i, .int .i64 e0] 26))
      have HOf := offset_yes w.heap.size X c k s A col _ hX3 ht hc0 (by rw [HBG.out, HE0.out]; exact hc1) (by omega)
      rw [HBG.out] at HOf
      clear hb2
      go_wp2_with fail
      refine HOf.mono ?_
      rintro e w4 ⟨rfl, hb5⟩
      clear HOf
      have d0 : w4.cell? ⟨w2.heap.size, 0, none⟩ = some (.int .i64 i) := (hb5.cell (p := ⟨w2.heap.size, 0, none⟩) (by simp)).trans (by simp [go_sem])
      have d1 : w4.cell? ⟨w2.heap.size, 1, none⟩ = some (.int .i64 e0) := (hb5.cell (p := ⟨w2.heap.size, 1, none⟩) (by simp)).trans (by simp [go_sem])
      have hb6 := hb4.trans (hb5.mono hb4.size)
      have hX4 := hX3.below hb5
      have HIn := indent_yes w.heap.size X c k i e0 s A _ hX4 ht HBG.out HE0.out hie hes (by omega)
      obtain ⟨IN, hIN⟩ : ∃ IN, IN = ((lnB s i e0).takeWhile blank).length := ⟨_, rfl⟩
      rw [← hIN] at HIn
      have HINH := Lib.hid hIN; clear hIN hb5
      have hi2 : (i : Int) ≤ (s.size : Int) := by omega
      go_wp2_with fail
      go_loop [14] (fun v => ∃ z : Nat, i ≤ z ∧ z ≤ s.size ∧ v = .int .i64 z ∧ Hid (lnOf s z = k)) (fun v => s.size - (intOf v).toNat)
      case atStart => exact ⟨i, Nat.le_refl _, hile, rfl, HLN.out⟩
      case round =>
        obtain ⟨z, hz1, hz2, rfl, HZ⟩ := hrel
        by_cases hzz : z < s.size ∧ s.data.toList[z]? ≠ some 10
        · obtain ⟨g1, g2⟩ := hzz
          obtain ⟨ch, hch⟩ := byte_at s g1
          have hsi := at_of z g1 ch hch
          have h10 : ch ≠ 10 := fun e => g2 (by rw [hch, e])
          have q2 := (ten_ne h10).2
          have HG2 := Lib.hid (lnOf_miss g2)
          clear hch h10 g2
          go_wp2
          go_round
          case rel => exact ⟨z + 1, by omega, by omega, by go_num, by show _ = _; rw [HG2.out]; exact HZ.out⟩
          case measure => simp [intOf]; omega
        · have hze : z = e0 := by
            have h1 := end_of HZ.out hz2 (by
              by_cases h : z < s.size
              · exact .inr (Classical.byContradiction fun h' => hzz ⟨h, h'⟩)
              · exact .inl (by omega))
            rw [HE0.out] at h1
            omega
          subst hze
          have hout : z < s.size → ∃ (h : z < s.size), s[z] = 10 := fun h => by
            refine ⟨h, at_of z h 10 ?_⟩
            exact Classical.byContradiction fun h' => hzz ⟨h, h'⟩
          have HOUT := Lib.hid hout
          clear hzz hout
          by_cases hzs : z < s.size
          · obtain ⟨_, hsz⟩ := HOUT.out hzs
            have q2 : (((10 : UInt8).toNat : Int) != 10) = false := by decide
            go_wp2_with fail
            go_loop [15] (fun v => ∃ j : Nat, i + j ≤ z ∧ v = .int .i64 j ∧ Hid (j + (((lnB s i z).drop j).takeWhile blank).length = IN)) (fun v => z - (intOf v).toNat)
            case atStart => exact ⟨0, by omega, rfl, by show _ = _; rw [HINH.out]; simp⟩
            case round =>
              obtain ⟨j, hj, rfl, HJ⟩ := hrel
              by_cases hjz : i + j < z
              · have hjs : i + j < s.size := by omega
                obtain ⟨ch, hch⟩ := byte_at s hjs
                have hsi := at_of (i + j) hjs ch hch
                have HD := Lib.hid (lnB_at hjz hch)
                clear hch
                have hji : (i : Int) + (j : Int) < (z : Int) := by omega
                have hjss : (i : Int) + (j : Int) < (s.size : Int) := by omega
                by_cases h32 : ch = 32
                · subst h32
                  have q3 : (((32 : UInt8).toNat : Int) == 32) = true := by decide
                  go_wp2
                  go_round
                  case rel => exact ⟨j + 1, by omega, by go_num, by show _ = _; rw [← HJ.out, HD.out]; simp [blank]; omega⟩
                  case measure => simp [intOf]; omega
                · have q3 := u8ne (m := 32) (by omega) h32
                  by_cases h9 : ch = 9
                  · subst h9
                    have q4 : (((9 : UInt8).toNat : Int) == 9) = true := by decide
                    have q5 : (((9 : UInt8).toNat : Int) == 32) = false := by decide
                    clear q3 h32
                    go_wp2
                    go_round
                    case rel => exact ⟨j + 1, by omega, by go_num, by show _ = _; rw [← HJ.out, HD.out]; simp [blank]; omega⟩
                    case measure => simp [intOf]; omega
                  · have q4 := u8ne (m := 9) (by omega) h9
                    have q5 : ((ch.toNat : Int) == 32) = false := q3
                    have q6 : ((ch.toNat : Int) == 9) = false := q4
                    obtain rfl : j = IN := by
                      have hbl : blank ch = false := by simp [blank, h32, h9]
                      rw [← HJ.out, HD.out, List.takeWhile_cons, hbl]; rfl
                    clear q3 q4 h32 h9
                    go_wp2_with fail
                    refine HIn.mono ?_
                    rintro e w5 ⟨rfl, hb7⟩
                    have hb8 := hb6.trans (hb7.mono hb6.size)
                    clear HIn hb7
                    go_wp2_with fail
                    refine (awake_any _).mono ?_
                    rintro e w6 ⟨rfl, hb9⟩
                    go_wp2
                    go_ret
                    exact ⟨rfl, hb8.trans (hb9.mono hb8.size)⟩
              · obtain rfl : j = IN := by rw [← HJ.out, lnB_end (by omega)]; rfl
                have hjz2 : ¬ ((i : Int) + (j : Int) < (z : Int)) := by omega
                go_wp2_with fail
                refine HIn.mono ?_
                rintro e w5 ⟨rfl, hb7⟩
                have hb8 := hb6.trans (hb7.mono hb6.size)
                clear HIn hb7
                go_wp2_with fail
                refine (awake_any _).mono ?_
                rintro e w6 ⟨rfl, hb9⟩
                go_wp2
                go_ret
                exact ⟨rfl, hb8.trans (hb9.mono hb8.size)⟩
          · go_wp2_with fail
            go_loop [15] (fun v => ∃ j : Nat, i + j ≤ z ∧ v = .int .i64 j ∧ Hid (j + (((lnB s i z).drop j).takeWhile blank).length = IN)) (fun v => z - (intOf v).toNat)
            case atStart => exact ⟨0, by omega, rfl, by show _ = _; rw [HINH.out]; simp⟩
            case round =>
              obtain ⟨j, hj, rfl, HJ⟩ := hrel
              by_cases hjz : i + j < z
              · have hjs : i + j < s.size := by omega
                obtain ⟨ch, hch⟩ := byte_at s hjs
                have hsi := at_of (i + j) hjs ch hch
                have HD := Lib.hid (lnB_at hjz hch)
                clear hch
                have hji : (i : Int) + (j : Int) < (z : Int) := by omega
                have hjss : (i : Int) + (j : Int) < (s.size : Int) := by omega
                by_cases h32 : ch = 32
                · subst h32
                  have q3 : (((32 : UInt8).toNat : Int) == 32) = true := by decide
                  go_wp2
                  go_round
                  case rel => exact ⟨j + 1, by omega, by go_num, by show _ = _; rw [← HJ.out, HD.out]; simp [blank]; omega⟩
                  case measure => simp [intOf]; omega
                · have q3 := u8ne (m := 32) (by omega) h32
                  by_cases h9 : ch = 9
                  · subst h9
                    have q4 : (((9 : UInt8).toNat : Int) == 9) = true := by decide
                    have q5 : (((9 : UInt8).toNat : Int) == 32) = false := by decide
                    clear q3 h32
                    go_wp2
                    go_round
                    case rel => exact ⟨j + 1, by omega, by go_num, by show _ = _; rw [← HJ.out, HD.out]; simp [blank]; omega⟩
                    case measure => simp [intOf]; omega
                  · have q4 := u8ne (m := 9) (by omega) h9
                    have q5 : ((ch.toNat : Int) == 32) = false := q3
                    have q6 : ((ch.toNat : Int) == 9) = false := q4
                    obtain rfl : j = IN := by
                      have hbl : blank ch = false := by simp [blank, h32, h9]
                      rw [← HJ.out, HD.out, List.takeWhile_cons, hbl]; rfl
                    clear q3 q4 h32 h9
                    go_wp2_with fail
                    refine HIn.mono ?_
                    rintro e w5 ⟨rfl, hb7⟩
                    have hb8 := hb6.trans (hb7.mono hb6.size)
                    clear HIn hb7
                    go_wp2_with fail
                    refine (awake_any _).mono ?_
                    rintro e w6 ⟨rfl, hb9⟩
                    go_wp2
                    go_ret
                    exact ⟨rfl, hb8.trans (hb9.mono hb8.size)⟩
              · obtain rfl : j = IN := by rw [← HJ.out, lnB_end (by omega)]; rfl
                have hjz2 : ¬ ((i : Int) + (j : Int) < (z : Int)) := by omega
                go_wp2_with fail
                refine HIn.mono ?_
                rintro e w5 ⟨rfl, hb7⟩
                have hb8 := hb6.trans (hb7.mono hb6.size)
                clear HIn hb7
                go_wp2_with fail
                refine (awake_any _).mono ?_
                rintro e w6 ⟨rfl, hb9⟩
                go_wp2
                go_ret
                exact ⟨rfl, hb8.trans (hb9.mono hb8.size)⟩

theorem law_lines (s : ByteArray) (n col : Int) (w : World) (hs0 : s.size ≤ 9223372036854775807) (hn : n ≤ 9223372036854775807) : Calls Tryd.prog 3 #[.string s, .int .i64 n, .int .i64 col] w (Fine w) := by
  by_cases hs : 2000 < s.size
  · exact law_lines_long s n col w hs0 hs
  by_cases h0 : n < 0
  · exact law_lines_neg s n col w (by omega) h0
  obtain ⟨t, rfl⟩ : ∃ t : Nat, n = t := ⟨n.toNat, by omega⟩
  by_cases ht : (bgs s).length < t
  · exact law_lines_big s t col w (by omega) ht hn
  by_cases hc : col < 0 ∨ enOf s t - bgOf s t < col
  · exact law_lines_in_no s t col w (by omega) (by omega) hc
  · exact law_lines_in_yes s t col w (by omega) (by omega) (by omega) (by omega)
end Go.Proofs.YtifehdoindbkmaaDoor
