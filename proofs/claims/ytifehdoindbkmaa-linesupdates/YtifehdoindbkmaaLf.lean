/- The law LinesPlaces, walked. -/
import Derived.Test.YtifehdoindbkmaaLe
namespace Go.Proofs.Ytifehdoindbkmaa
open Go.RowKit Go.Shelf

/-- A law's end: true, and what was there is as it was. -/
def Fine (w : World) (e : Ending) (w' : World) : Prop := e = .returned (.bool true) ∧ Below w.heap.size w w'

/-- The last of some places, or 0. -/
def lb (l : List Int) : Int := (l.getLast?).getD 0
theorem lb_snoc (l : List Int) (z : Int) : lb (l ++ [z]) = z := by simp [lb]

theorem bgOf_last {s : ByteArray} {p : Nat} (h : p ≤ s.size) : bgOf s (lnOf s p) = lb (nls s.data.toList p) := by
  unfold bgOf lb
  obtain ⟨r, h1, _⟩ := nls_more (l := s.data.toList) h
  by_cases h0 : lnOf s p = 0
  · have : nls s.data.toList p = [] := List.eq_nil_of_length_eq_zero h0
    rw [if_pos h0, this]; rfl
  · rw [if_neg h0]
    have h2 : (bgs s)[lnOf s p - 1]? = (nls s.data.toList p)[lnOf s p - 1]? := by
      unfold bgs
      rw [h1, List.getElem?_append_left (by unfold lnOf at *; omega)]
    rw [h2, List.getLast?_eq_getElem?]; rfl

set_option maxRecDepth 100000 in
set_option maxHeartbeats 2000000 in
theorem place7_any (s : ByteArray) (p : Nat) (w : World) (hp : p ≤ s.size) (hs : s.size ≤ 1000000) :
    Calls Try.prog 7 #[.string s, .int .i64 p] w fun e w' => e = .returned (.tuple #[.int .i64 (lnOf s p), .int .i64 ((p : Int) - bgOf s (lnOf s p))]) ∧ w = w' := by
  rw [bgOf_last hp]
  have hln : lnOf s p = (nls s.data.toList p).length := rfl
  rw [hln]
  obtain ⟨L, hL⟩ : ∃ L, L = s.data.toList := ⟨_, rfl⟩
  have hlen : L.length = s.size := by rw [hL, ← Lib.size_eq]
  have hat : ∀ (j : Nat) (hj : j < s.size) (c : UInt8), L[j]? = some c → s[j] = c := by
    intro j hj c hc
    rw [hL] at hc
    obtain ⟨h1, h2⟩ := List.getElem?_eq_some_iff.1 hc
    rw [← h2]; simp; rfl
  rw [← hL]
  have HLN := Lib.hid hlen; have HAT := Lib.hid hat
  clear hln hL hlen hat
  go_enter Try.func7, Try.ntmps7
  go_wp2_with fail
  go_loop [6, 7, 8] (fun ln cl i => ∃ (k m : Nat) (x : Int), k ≤ p ∧ m ≤ k ∧ 0 ≤ x ∧ x ≤ k ∧ i = .int .i64 k ∧ ln = .int .i64 m ∧ cl = .int .i64 x ∧ Hid (m = (nls L k).length) ∧ Hid (x = (k : Int) - lb (nls L k))) (fun _ _ i => p - (intOf i).toNat)
  case atStart => exact ⟨0, 0, 0, by omega, by omega, by omega, by omega, rfl, rfl, rfl, rfl, rfl⟩
  case round =>
    obtain ⟨k, m, x, hk, hm, hx0, hx1, rfl, rfl, rfl, HM, HX⟩ := hrel
    by_cases hlt : k < p
    · obtain ⟨c, hc⟩ : ∃ c, L[k]? = some c := ⟨_, List.getElem?_eq_getElem (by rw [HLN.out]; omega)⟩
      have hks : k < s.size := by omega
      have hsk := HAT.out k hks c hc
      have HC := Lib.hid hc; clear hc
      by_cases h10 : c = 10
      · subst h10
        have hh := nls_hit HC.out
        have q1 : (((10 : UInt8).toNat : Int) == 10) = true := by decide
        have HH := Lib.hid hh; clear hh
        go_wp2
        go_round
        case rel =>
          refine ⟨k + 1, m + 1, 0, by omega, by omega, by omega, by omega, by go_num, by go_num, rfl, ?_, ?_⟩
          · show _ = _
            rw [HH.out, List.length_append, ← HM.out]; rfl
          · show _ = _
            rw [HH.out, lb_snoc]; omega
        case measure => simp [intOf]; omega
      · have hne : ((c.toNat : Int) == 10) = false := by
          rw [beq_eq_false_iff_ne]
          intro e
          apply h10
          apply UInt8.toNat_inj.1
          have : c.toNat = 10 := by omega
          rw [this]; rfl
        have HH := Lib.hid (nls_miss (l := L) (k := k) (by rw [HC.out]; intro e; injection e with e; exact h10 e))
        go_wp2
        go_round
        case rel =>
          refine ⟨k + 1, m, x + 1, by omega, by omega, by omega, by omega, by go_num, rfl, rfl, ?_, ?_⟩
          · show _ = _
            rw [HH.out]; exact HM.out
          · show _ = _
            rw [HH.out, HX.out]; omega
        case measure => simp [intOf]; omega
    · obtain rfl : k = p := by omega
      go_wp2
      go_ret2
      exact ⟨by rw [← HM.out, ← HX.out]; rfl, rfl⟩

set_option maxRecDepth 100000 in
set_option maxHeartbeats 2000000 in
theorem law_places_long (s : ByteArray) (p : Int) (w : World) (hs0 : s.size ≤ 9223372036854775807) (hs : 2000 < s.size) : Calls Try.prog 3 #[.string s, .int .i64 p] w (Fine w) := by
  go_enter Try.func3, Try.ntmps3
  go_wp2_with fail
  refine (awake_any _).mono ?_
  rintro e w1 ⟨rfl, hb⟩
  go_wp2
  go_ret
  exact ⟨rfl, hb⟩

theorem lnOf_all (s : ByteArray) : lnOf s s.size = (bgs s).length := rfl

set_option maxRecDepth 100000 in
set_option maxHeartbeats 2000000 in
theorem law_places_out (s : ByteArray) (p : Int) (w : World) (hs : s.size ≤ 2000) (hp : p < 0 ∨ (s.size : Int) < p) : Calls Try.prog 3 #[.string s, .int .i64 p] w (Fine w) := by
  have HN := new_any s w (by omega)
  have HL := fun W => place7_any s s.size W (Nat.le_refl _) (by omega)
  rw [lnOf_all] at HL
  have hbl := bgs_len s
  go_enter Try.func3, Try.ntmps3
  go_wp2_with fail
  refine HN.mono ?_
  rintro e w1 ⟨X, A, c, rfl, hX, hb⟩
  clear HN
  go_wp2_with fail
  refine (HL _).mono ?_
  rintro e w2 ⟨rfl, rfl⟩
  clear HL
  have HP := place_no w.heap.size X c s A p w1 hX hp (by omega)
  go_wp2_with fail
  refine HP.mono ?_
  rintro e w2 ⟨rfl, rfl⟩
  clear HP
  have HC := count_any w.heap.size X c s A w1 hX (by omega)
  go_wp2_with fail
  refine HC.mono ?_
  rintro e w2 ⟨rfl, rfl⟩
  clear HC
  have HT := text_any w.heap.size X c s A w1 hX (by omega)
  have q0 : (s.toList == s.toList) = true := by simp
  go_wp2_with fail
  refine HT.mono ?_
  rintro e w2 ⟨rfl, hb2⟩
  have hb3 := hb.trans (hb2.mono hb.size)
  clear HT hb2
  rcases hp with hp | hp
  · go_wp2_with fail
    refine (awake_any _).mono ?_
    rintro e w3 ⟨rfl, hb4⟩
    go_wp2
    go_ret
    exact ⟨rfl, hb3.trans (hb4.mono hb3.size)⟩
  · have h0 : 0 ≤ p := by omega
    go_wp2_with fail
    refine (awake_any _).mono ?_
    rintro e w3 ⟨rfl, hb4⟩
    go_wp2
    go_ret
    exact ⟨rfl, hb3.trans (hb4.mono hb3.size)⟩

set_option maxRecDepth 100000 in
set_option maxHeartbeats 2000000 in
theorem law_places_in (s : ByteArray) (p : Nat) (w : World) (hs : s.size ≤ 2000) (hp : p ≤ s.size) : Calls Try.prog 3 #[.string s, .int .i64 p] w (Fine w) := by
  have HN := new_any s w (by omega)
  have HL := fun W => place7_any s s.size W (Nat.le_refl _) (by omega)
  have HQ := fun W => place7_any s p W hp (by omega)
  rw [lnOf_all] at HL
  have hbl := bgs_len s
  have hll := lnOf_le s hp
  obtain ⟨b1, b2⟩ := bgOf_bd s (lnOf s p)
  have e1 := bg_le hp
  have e2 := le_en hp
  have hpi : (p : Int) ≤ (s.size : Int) := by omega
  have hp0 : (0 : Int) ≤ (p : Int) := by omega
  go_enter Try.func3, Try.ntmps3
  go_wp2_with fail
  refine HN.mono ?_
  rintro e w1 ⟨X, A, c, rfl, hX, hb⟩
  clear HN
  go_wp2_with fail
  refine (HL _).mono ?_
  rintro e w2 ⟨rfl, rfl⟩
  clear HL
  have HP := place_yes w.heap.size X c p s A w1 hX hp (by omega)
  have HO := fun W (h : XAt W w.heap.size X s A c) => offset_yes w.heap.size X c (lnOf s p) s A ((p : Int) - bgOf s (lnOf s p)) W h hll (by omega) (by omega) (by omega)
  rw [show bgOf s (lnOf s p) + ((p : Int) - bgOf s (lnOf s p)) = p by omega] at HO
  generalize bgOf s (lnOf s p) = b at *
  generalize lnOf s p = m at *
  go_wp2_with fail
  refine HP.mono ?_
  rintro e w2 ⟨rfl, hb2⟩
  have hX2 := hX.below hb2
  have hb3 := hb.trans (hb2.mono hb.size)
  clear HP hb2 e2
  have HC := count_any w.heap.size X c s A w2 hX2 (by omega)
  go_wp2_with fail
  refine HC.mono ?_
  rintro e w3 ⟨rfl, rfl⟩
  clear HC
  have HT := text_any w.heap.size X c s A w2 hX2 (by omega)
  have q0 : (s.toList == s.toList) = true := by simp
  go_wp2_with fail
  refine HT.mono ?_
  rintro e w3 ⟨rfl, hb4⟩
  have hX3 := hX2.below hb4
  have hb5 := hb3.trans (hb4.mono hb3.size)
  clear HT hb4
  go_wp2_with fail
  refine (HQ _).mono ?_
  rintro e w4 ⟨rfl, rfl⟩
  clear HQ
  go_wp2_with fail
  refine (HO _ hX3).mono ?_
  rintro e w4 ⟨rfl, hb6⟩
  have hb7 := hb5.trans (hb6.mono hb5.size)
  clear HO hb6
  go_wp2_with fail
  refine (awake_any _).mono ?_
  rintro e w5 ⟨rfl, hb8⟩
  go_wp2
  go_ret
  exact ⟨rfl, hb7.trans (hb8.mono hb7.size)⟩

theorem law_places (s : ByteArray) (p : Int) (w : World) (hs0 : s.size ≤ 9223372036854775807) : Calls Try.prog 3 #[.string s, .int .i64 p] w (Fine w) := by
  by_cases hs : 2000 < s.size
  · exact law_places_long s p w hs0 hs
  by_cases hp : p < 0 ∨ (s.size : Int) < p
  · exact law_places_out s p w (by omega) hp
  · obtain ⟨q, rfl⟩ : ∃ q : Nat, p = q := ⟨p.toNat, by omega⟩
    exact law_places_in s q w (by omega) (by omega)
end Go.Proofs.Ytifehdoindbkmaa
