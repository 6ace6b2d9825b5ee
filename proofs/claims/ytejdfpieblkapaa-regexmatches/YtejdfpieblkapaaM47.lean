/- RegexTurns. -/
import Derived.Test.YtejdfpieblkapaaM46
import Derived.Test.YtejdfpieblkapaaM40
namespace Go.Proofs.Ytejdfpieblkapaa
open Go.RowKit Go.Shelf

/-- What Parse answers, in one form. -/
def PaU (s : ByteArray) (w : World) (e : Ending) (w' : World) : Prop :=
  ∃ (po : Option Addr) (p c : Int), e = .returned (.tuple #[.pointer po, .int .i64 p, .int .i64 c]) ∧ Below w.heap.size w w' ∧ (c = 0 → ∃ r nb, po = some ⟨nb, 0, none⟩ ∧ parseF s.data.toList = some r ∧ r.size ≤ 400 ∧ NdAt w' r nb) ∧ (c ≠ 0 → po = none ∧ parseF s.data.toList = none)
theorem parse_u (s : ByteArray) (w : World) (hs : s.size ≤ 1000000) : Calls Try.prog 8 #[.string s] w (PaU s w) := by
  refine (parse_any s w hs).mono ?_
  rintro e w' ⟨h1, h2⟩
  rcases h2 with ⟨r, nb, a1, a2, rfl, a3⟩ | ⟨a1, p, c, a2, rfl⟩
  · exact ⟨_, _, _, rfl, h1, fun _ => ⟨r, nb, rfl, a1, a2, a3⟩, fun h => absurd rfl h⟩
  · exact ⟨_, _, _, rfl, h1, fun h => absurd h a2, fun _ => ⟨rfl, a1⟩⟩
theorem bx_list (a b : ByteArray) : (⟨#[40]⟩ ++ a ++ ⟨#[41, 124, 40]⟩ ++ b ++ ⟨#[41]⟩ : ByteArray).data.toList = 40 :: a.data.toList ++ 41 :: 124 :: 40 :: b.data.toList ++ [41] := by
  simp [ByteArray.data_append, Array.toList_append]
theorem bz_list (a : ByteArray) : (⟨#[40, 40]⟩ ++ a ++ ⟨#[41, 41, 124, 40, 40]⟩ ++ a ++ ⟨#[41, 41]⟩ : ByteArray).data.toList = 40 :: 40 :: a.data.toList ++ 41 :: 41 :: 124 :: 40 :: 40 :: a.data.toList ++ [41, 41] := by
  simp [ByteArray.data_append, Array.toList_append]
theorem bx_size (a b : ByteArray) (h1 : a.size ≤ 30) (h2 : b.size ≤ 30) : (⟨#[40]⟩ ++ a ++ ⟨#[41, 124, 40]⟩ ++ b ++ ⟨#[41]⟩ : ByteArray).size ≤ 1000000 := by
  rw [Lib.size_eq, bx_list]
  have e1 := Lib.size_eq a; have e2 := Lib.size_eq b
  simp; omega
theorem bz_size (a : ByteArray) (h1 : a.size ≤ 30) : (⟨#[40, 40]⟩ ++ a ++ ⟨#[41, 41, 124, 40, 40]⟩ ++ a ++ ⟨#[41, 41]⟩ : ByteArray).size ≤ 1000000 := by
  rw [Lib.size_eq, bz_list]
  have e1 := Lib.size_eq a
  simp; omega
set_option maxRecDepth 100000 in
set_option maxHeartbeats 1000000 in
theorem turns_long (a b t : ByteArray) (w : World) (h : 30 < a.size ∨ 30 < b.size ∨ 10 < t.size) : Calls Try.prog 6 #[.string a, .string b, .string t] w (Ans (.bool true) w) := by
  by_cases h1 : 30 < a.size
  · have h1i : (30 : Int) < a.size := by omega
    go_enter Try.func6, Try.ntmps6
    go_wp2_with fail
    refine (awake_any w).mono ?_
    rintro e w1 ⟨rfl, hb⟩
    go_wp2
    go_ret
    exact ⟨rfl, hb⟩
  · have h1i : ¬ (30 : Int) < a.size := by omega
    by_cases h2 : 30 < b.size
    · have h2i : (30 : Int) < b.size := by omega
      go_enter Try.func6, Try.ntmps6
      go_wp2_with fail
      refine (awake_any w).mono ?_
      rintro e w1 ⟨rfl, hb⟩
      go_wp2
      go_ret
      exact ⟨rfl, hb⟩
    · have h2i : ¬ (30 : Int) < b.size := by omega
      have h3i : (10 : Int) < t.size := by omega
      go_enter Try.func6, Try.ntmps6
      go_wp2_with fail
      refine (awake_any w).mono ?_
      rintro e w1 ⟨rfl, hb⟩
      go_wp2
      go_ret
      exact ⟨rfl, hb⟩
set_option maxRecDepth 100000 in
set_option maxHeartbeats 1000000 in
theorem turns_short (a b t : ByteArray) (w : World) (h1 : a.size ≤ 30) (h2 : b.size ≤ 30) (h3 : t.size ≤ 10) : Calls Try.prog 6 #[.string a, .string b, .string t] w (Ans (.bool true) w) := by
  have h1i : ¬ (30 : Int) < a.size := by omega
  have h2i : ¬ (30 : Int) < b.size := by omega
  have h3i : ¬ (10 : Int) < t.size := by omega
  go_enter Try.func6, Try.ntmps6
  go_wp2_with fail
  refine (awake_any w).mono ?_
  rintro e w1 ⟨rfl, hb⟩
  have HB0 := Lib.hid hb
  clear hb
  go_wp2_with fail
  refine (parse_u _ w1 (bx_size a b h1 h2)).mono ?_
  rintro e w2 ⟨px, ix, cx, rfl, hb2, x1, x2⟩
  have HX1 := Lib.hid x1
  have HB2 := Lib.hid hb2
  clear x1 x2 hb2
  go_wp2_with fail
  refine (parse_u _ w2 (bx_size b a h2 h1)).mono ?_
  rintro e w3 ⟨py, iy, cy, rfl, hb3, y1, y2⟩
  have HY1 := Lib.hid y1
  have HB3 := Lib.hid hb3
  clear y1 y2 hb3
  go_wp2_with fail
  refine (parse_u _ w3 (bz_size a h1)).mono ?_
  rintro e w4 ⟨pz, iz, cz, rfl, hb4, z1, z2⟩
  have HZ1 := Lib.hid z1
  have HB4 := Lib.hid hb4
  clear z1 z2 hb4
  go_wp2_with fail
  refine (parse_u _ w4 (by omega)).mono ?_
  rintro e w5 ⟨pn, iin, cn, rfl, hb5, n1, n2⟩
  have HN1 := Lib.hid n1
  have HB5 := Lib.hid hb5
  clear n1 n2 hb5
  have hb25 : Below w2.heap.size w2 w5 := below_tr (below_tr HB3.out HB4.out HB3.out.size) HB5.out (Nat.le_trans HB3.out.size HB4.out.size)
  have hb35 : Below w3.heap.size w3 w5 := below_tr HB4.out HB5.out HB4.out.size
  have hb05 : Below w.heap.size w w5 := below_tr (below_tr HB0.out HB2.out HB0.out.size) hb25 (Nat.le_trans HB0.out.size HB2.out.size)
  have H25 := Lib.hid hb25; have H35 := Lib.hid hb35; have H05 := Lib.hid hb05
  clear hb25 hb35 hb05
  by_cases hcx : cx = 0
  · by_cases hcy : cy = 0
    · by_cases hcz : cz = 0
      · by_cases hcn : cn = 0
        · obtain ⟨rx, bx, ex, qx, sx, nx'⟩ := HX1.out hcx
          obtain ⟨ry, bY, ey, qy, sy, ny⟩ := HY1.out hcy
          obtain ⟨rz, bz, ez, qz, sz, nz⟩ := HZ1.out hcz
          obtain ⟨rn, bn, en, qn, sn, nn⟩ := HN1.out hcn
          subst hcx; subst hcy; subst hcz; subst hcn; subst ex; subst ey; subst ez; subst en
          rw [bx_list] at qx qy
          rw [bz_list] at qz
          have htm := turns_math a.data.toList b.data.toList rx ry rz rn qx qy qz qn t.data.toList
          have e1 : rx.mt t.data.toList = ry.mt t.data.toList := by rw [Bool.eq_iff_iff, Rx.mt_iff, Rx.mt_iff]; exact htm.1
          have e2 : rz.mt t.data.toList = rn.mt t.data.toList := by rw [Bool.eq_iff_iff, Rx.mt_iff, Rx.mt_iff]; exact htm.2
          have M1 := Lib.hid (matches_mt w5 rx bx t (nx'.keep (KN.of_below H25.out)) (by omega) (by omega))
          have M2 := Lib.hid (fun w' h => matches_mt w' ry bY t ((ny.keep (KN.of_below H35.out)).keep (KN.of_below h)) (by omega) (by omega))
          have M3 := Lib.hid (fun w' h => matches_mt w' rz bz t ((nz.keep (KN.of_below HB5.out)).keep (KN.of_below h)) (by omega) (by omega))
          have M4 := Lib.hid (fun w' h => matches_mt w' rn bn t (nn.keep (KN.of_below h)) (by omega) (by omega))
          rw [e1] at M1
          rw [e2] at M3
          generalize ry.mt t.data.toList = β1 at M1 M2
          generalize rn.mt t.data.toList = β2 at M3 M4
          clear htm e1 e2 qx qy qz qn nx' ny nz nn HX1 HY1 HZ1 HN1
          go_wp2_with fail
          refine M1.out.mono ?_
          rintro e w6 ⟨rfl, hb6⟩
          have HB6 := Lib.hid hb6
          clear hb6
          go_wp2_with fail
          refine (M2.out w6 HB6.out).mono ?_
          rintro e w7 ⟨rfl, hb7⟩
          have HB7 := Lib.hid (below_tr HB6.out hb7 HB6.out.size)
          clear hb7
          cases β1 <;> (
            go_wp2_with fail
            refine (M3.out w7 HB7.out).mono ?_
            rintro e w8 ⟨rfl, hb8⟩
            have HB8 := Lib.hid (below_tr HB7.out hb8 HB7.out.size)
            clear hb8
            go_wp2_with fail
            refine (M4.out w8 HB8.out).mono ?_
            rintro e w9 ⟨rfl, hb9⟩
            have HB9 := Lib.hid (below_tr HB8.out hb9 HB8.out.size)
            clear hb9
            cases β2 <;> (
              go_wp2
              go_ret
              exact ⟨rfl, below_tr H05.out HB9.out H05.out.size⟩))
        · subst hcx; subst hcy; subst hcz
          go_wp2
          go_ret
          exact ⟨rfl, H05.out⟩
      · subst hcx; subst hcy
        go_wp2
        go_ret
        exact ⟨rfl, H05.out⟩
    · subst hcx
      go_wp2
      go_ret
      exact ⟨rfl, H05.out⟩
  · go_wp2
    go_ret
    exact ⟨rfl, H05.out⟩
theorem law_turns (a b t : ByteArray) (w : World) : Calls Try.prog 6 #[.string a, .string b, .string t] w (Ans (.bool true) w) := by
  by_cases h : 30 < a.size ∨ 30 < b.size ∨ 10 < t.size
  · exact turns_long a b t w h
  · exact turns_short a b t w (by omega) (by omega) (by omega)
end Go.Proofs.Ytejdfpieblkapaa
