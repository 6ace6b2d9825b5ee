/- RegexLiterals. -/
import Derived.Test.YtejdfpieblkapaaM46
namespace Go.Proofs.Ytejdfpieblkapaa
open Go.RowKit Go.Shelf

set_option maxRecDepth 100000 in
set_option maxHeartbeats 1000000 in
theorem lits_long (s t : ByteArray) (w : World) (h : 300 < s.size ∨ 300 < t.size) : Calls Try.prog 5 #[.string s, .string t] w (Ans (.bool true) w) := by
  by_cases h1 : 300 < s.size
  · have h1i : (300 : Int) < s.size := by omega
    go_enter Try.func5, Try.ntmps5
    go_wp2_with fail
    refine (awake_any w).mono ?_
    rintro e w1 ⟨rfl, hb⟩
    go_wp2
    go_ret
    exact ⟨rfl, hb⟩
  · have h1i : ¬ (300 : Int) < s.size := by omega
    have h2i : (300 : Int) < t.size := by omega
    go_enter Try.func5, Try.ntmps5
    go_wp2_with fail
    refine (awake_any w).mono ?_
    rintro e w1 ⟨rfl, hb⟩
    go_wp2
    go_ret
    exact ⟨rfl, hb⟩
theorem size_nil (w : World) : Calls Try.prog 19 #[.pointer none] w fun e w' => e = .returned (.int .i64 0) ∧ w' = w := by
  go_enter Try.func19, Try.ntmps19
  go_wp2
  go_ret
  exact ⟨rfl, rfl⟩
theorem kind_nil (w : World) : Calls Try.prog 20 #[.pointer none] w fun e w' => e = .returned (.int .i64 (-1)) ∧ w' = w := by
  go_enter Try.func20, Try.ntmps20
  go_wp2
  go_ret
  exact ⟨rfl, rfl⟩
theorem parts_nil (w : World) : Calls Try.prog 21 #[.pointer none] w fun e w' => e = .returned (.slice none 0 0) ∧ w' = w := by
  go_enter Try.func21, Try.ntmps21
  go_wp2
  go_ret
  exact ⟨rfl, rfl⟩
/-- A set and the empty one. -/
theorem mt_empty (u : List UInt8) : Rx.empty.mt u = decide (u = []) := by
  rw [Bool.eq_iff_iff, Rx.mt_iff, decide_eq_true_iff]; exact Iff.rfl
theorem mt_none (u : List UInt8) : (Rx.set ws0).mt u = false := by
  rw [Bool.eq_false_iff]; intro h; exact none_L u ((Rx.mt_iff _ _).1 h)
theorem mt_bit (c : UInt8) (u : List UInt8) : (Rx.set (ws0.bit c.toNat)).mt u = decide (u = [c]) := by
  rw [Bool.eq_iff_iff, Rx.mt_iff, decide_eq_true_iff]
  have key : ∀ d : UInt8, (ws0.bit c.toNat).has d = true ↔ d = c := fun d => by
    rw [hasN_eq, Ws.hasN_bit _ _ _ c.toNat_lt d.toNat_lt]
    have h0 : ws0.hasN d.toNat = false := by
      have := btw_has 0 0 d.toNat (by omega) d.toNat_lt
      exact this.trans (decide_eq_false (by omega))
    rw [h0, Bool.false_or, decide_eq_true_iff]
    exact ⟨fun h => UInt8.toNat_inj.1 h, fun h => by rw [h]⟩
  refine ⟨fun ⟨d, hd, hs⟩ => by rw [hd, (key d).1 hs], fun h => ⟨c, h, (key c).2 rfl⟩⟩
theorem lit_L (l : List UInt8) : ∀ u : List UInt8, (nest .cat .empty (litS l)).L u ↔ u = l := by
  have hone : ∀ (c : UInt8) (u : List UInt8), (Rx.set (btw c.toNat 1)).L u ↔ u = [c] := fun c u => by
    have := mt_bit c u
    rw [Bool.eq_iff_iff, Rx.mt_iff, decide_eq_true_iff] at this
    exact this
  induction l with
  | nil => intro u; exact Iff.rfl
  | cons c l ih =>
    intro u
    cases l with
    | nil => exact hone c u
    | cons d l =>
      show (∃ x y, u = x ++ y ∧ (Rx.set (btw c.toNat 1)).L x ∧ (nest .cat .empty (litS (d :: l))).L y) ↔ _
      simp only [hone, ih]
      exact ⟨fun ⟨x, y, h, h1, h2⟩ => by rw [h, h1, h2]; rfl, fun h => ⟨[c], d :: l, h, rfl, rfl⟩⟩
theorem mt_lit (l u : List UInt8) : (nest .cat .empty (litS l)).mt u = decide (u = l) := by
  rw [Bool.eq_iff_iff, Rx.mt_iff, decide_eq_true_iff]; exact lit_L l u
theorem lit_size (l : List UInt8) : (nest .cat .empty (litS l)).size ≤ 2 * l.length + 1 := by
  have := catR_size (litS l)
  have h2 : szs (litS l) = l.length := by
    induction l with
    | nil => rfl
    | cons c l ih => show (Rx.set (btw c.toNat 1)).size + szs (litS l) = _; rw [ih (catR_size _)]; show 1 + l.length = l.length + 1; omega
  rw [h2] at this
  exact this

theorem shl_bit (k : Nat) (hk : k < 64) : IntKind.u64.wrap ((2 : Int) ^ k) = ((2 ^ k : Nat) : Int) := by
  have hp : 2 ^ k < 2 ^ 64 := Nat.pow_lt_pow_right (by omega) hk
  have h2 : ((2 : Int) ^ k) = ((2 ^ k : Nat) : Int) := by norm_cast
  have hw : ∀ y : Nat, y < 2 ^ 64 → IntKind.u64.wrap (y : Int) = (y : Int) := fun y hy => by
    rw [IntKind.wrap_u64]; omega
  rw [h2, hw _ hp]
theorem ext1 (s : ByteArray) (h : 0 < s.size) : [s[0]] = (s.extract 0 1).data.toList := by
  rw [ByteArray.data_extract, Array.toList_extract]
  have hl : 0 < s.data.toList.length := by rw [← Lib.size_eq]; exact h
  cases hd : s.data.toList with
  | nil => rw [hd] at hl; simp at hl
  | cons c l =>
    have : s[0] = c := by
      show s.data[0] = c
      rw [← Array.getElem_toList]
      simp [hd]
    simp [this]
theorem isE (t : ByteArray) : t.toList.isEmpty = decide (t.data.toList = []) := by
  rw [ByteArray.toList_eq]
  cases t.data.toList <;> simp
set_option maxRecDepth 100000 in
set_option maxHeartbeats 1000000 in
theorem lits_short (s t : ByteArray) (w : World) (h1 : s.size ≤ 300) (h2 : t.size ≤ 300) : Calls Try.prog 5 #[.string s, .string t] w (Ans (.bool true) w) := by
  have h1i : ¬ (300 : Int) < s.size := by omega
  have h2i : ¬ (300 : Int) < t.size := by omega
  obtain ⟨bt, hbt⟩ : ∃ bt, bt = decide (t.data.toList = []) := ⟨_, rfl⟩
  have hte : t.toList.isEmpty = bt := by rw [hbt]; exact isE t
  have ME := Lib.hid (fun w' nb h => matches_mt w' .empty nb t h (by decide) (by omega))
  rw [mt_empty, ← hbt] at ME
  have HBT := Lib.hid hbt
  clear hbt
  go_enter Try.func5, Try.ntmps5
  go_wp2_with fail
  refine (awake_any w).mono ?_
  rintro e w1 ⟨rfl, hb⟩
  have HB0 := Lib.hid hb
  clear hb
  by_cases hs : s = ⟨#[]⟩
  · subst hs
    have hA := alloc_ws w1
    have hbA : Below w1.heap.size w1 (w1.alloc (.cells #[.int .u64 0, .int .u64 0, .int .u64 0, .int .u64 0] 41)) := (Below.refl _ w1).alloc (Nat.le_refl _) _
    have HA := Lib.hid hA; have HBA := Lib.hid hbA
    clear hA hbA
    go_wp2_with fail
    refine (empty_any _).mono ?_
    rintro e w2 ⟨nb, rfl, hn2, hb2⟩
    have HM := Lib.hid (ME.out w2 nb hn2)
    have HA2 := Lib.hid ((hb2.block _ (lt_of_heap HA.out)).trans HA.out)
    have HB2 := Lib.hid (below_tr HBA.out hb2 HBA.out.size)
    clear hn2 hb2 HA HBA
    go_wp2_with fail
    refine HM.out.mono ?_
    rintro e w3 ⟨rfl, hb3⟩
    have hA3 := (hb3.block _ (lt_of_heap HA2.out)).trans HA2.out
    obtain ⟨z0, z1, z2, z3, _, _, _, _⟩ := ws_cells hA3
    have HB3 := Lib.hid (below_tr HB2.out hb3 HB2.out.size)
    clear hb3 hA3
    cases bt <;> (
      go_wp2_with fail
      refine (set_any ws0 w3).mono ?_
      rintro e w4 ⟨nb4, rfl, hn4, hb4⟩
      have HM4 := Lib.hid (matches_mt w4 (.set ws0) nb4 t hn4 (by decide) (by omega))
      rw [mt_none] at HM4
      have HB4 := Lib.hid (below_tr HB3.out hb4 HB3.out.size)
      clear hn4 hb4 z0 z1 z2 z3
      go_wp2_with fail
      refine HM4.out.mono ?_
      rintro e w5 ⟨rfl, hb5⟩
      have HB5 := Lib.hid (below_tr HB4.out hb5 HB4.out.size)
      clear hb5
      go_wp2_with fail
      refine (literal_any ⟨#[]⟩ w5 (by decide)).mono ?_
      rintro e w6 ⟨nb6, rfl, hn6, hb6⟩
      have HM6 := Lib.hid (matches_mt w6 _ nb6 ⟨#[]⟩ hn6 (Nat.le_trans (lit_size _) (by decide)) (by decide))
      rw [mt_lit, decide_eq_true rfl] at HM6
      have HM7 := Lib.hid (fun w' h => matches_mt w' _ nb6 t (hn6.keep (KN.of_below h)) (Nat.le_trans (lit_size _) (by decide)) (by omega))
      rw [mt_lit] at HM7
      have HB6 := Lib.hid (below_tr HB5.out hb6 HB5.out.size)
      clear hn6 hb6
      go_wp2_with fail
      refine HM6.out.mono ?_
      rintro e w7 ⟨rfl, hb7⟩
      have HM8 := Lib.hid (HM7.out w7 hb7)
      rw [show decide (t.data.toList = (⟨#[]⟩ : ByteArray).data.toList) = _ from HBT.out.symm] at HM8
      have HB7 := Lib.hid (below_tr HB6.out hb7 HB6.out.size)
      clear hb7
      go_wp2_with fail
      refine HM8.out.mono ?_
      rintro e w8 ⟨rfl, hb8⟩
      have HB8 := Lib.hid (below_tr HB7.out hb8 HB7.out.size)
      clear hb8
      go_wp2_with fail
      refine (star_nil w8).mono ?_
      rintro e w9 ⟨rfl, rfl⟩
      go_wp2_with fail
      refine (size_nil _).mono ?_
      rintro e w10 ⟨rfl, rfl⟩
      go_wp2_with fail
      refine (kind_nil _).mono ?_
      rintro e w11 ⟨rfl, rfl⟩
      go_wp2_with fail
      refine (parts_nil _).mono ?_
      rintro e w12 ⟨rfl, rfl⟩
      go_wp2
      go_ret
      exact ⟨rfl, below_tr HB0.out HB8.out HB0.out.size⟩)
  · have hse : s.toList.isEmpty = false := by
      rw [ByteArray.toList_eq]
      cases hl : s.data.toList with
      | nil => exact absurd (by cases s; simp at hl; simp [hl]) hs
      | cons _ _ => rfl
    have hsp : 0 < s.size := by
      rw [ByteArray.toList_eq, List.isEmpty_eq_false_iff] at hse
      rw [Lib.size_eq]; exact List.length_pos_iff.2 hse
    have hsi : (0 : Int) < s.size := by omega
    have hA := alloc_ws w1
    have hbA : Below w1.heap.size w1 (w1.alloc (.cells #[.int .u64 0, .int .u64 0, .int .u64 0, .int .u64 0] 41)) := (Below.refl _ w1).alloc (Nat.le_refl _) _
    have HA := Lib.hid hA; have HBA := Lib.hid hbA
    clear hA hbA
    go_wp2_with fail
    generalize hwA : w1.alloc (.cells #[.int .u64 0, .int .u64 0, .int .u64 0, .int .u64 0] 41) = wA at HA HBA ⊢
    obtain ⟨c, hc⟩ : ∃ c, c = s[0] := ⟨_, rfl⟩
    have hcl := c.toNat_lt
    have f1 : ∀ k, wA.frozen? ⟨w1.heap.size, k, none⟩ = false := fun k => Lib.frozen_of_heap HA.out k
    have q1 : wA.cell? ⟨w1.heap.size, c.toNat / 64, none⟩ = some (.int .u64 0) := by
      rw [Lib.cell_of_heap HA.out]
      rcases (show c.toNat / 64 = 0 ∨ c.toNat / 64 = 1 ∨ c.toNat / 64 = 2 ∨ c.toNat / 64 = 3 by omega) with h | h | h | h <;> rw [h] <;> rfl
    have f1' := f1 (c.toNat / 64)
    clear f1
    rw [hc] at q1 f1' hcl
    have hcl2 : ((s[0].toNat : Nat) : Int) < 256 := by omega
    go_region
    have hblk : (wA.setCell ⟨w1.heap.size, s[0].toNat / 64, none⟩ (.int .u64 (IntKind.u64.wrap ((2 : Int) ^ (s[0].toNat % 64))))).drew.heap[w1.heap.size]? = some (.cells (ws0.bit c.toNat).cells 41 (0, 0)) := by
      show (wA.setCell ⟨w1.heap.size, s[0].toNat / 64, none⟩ _).heap[w1.heap.size]? = _
      rw [set_heap wA _ _ _ _ _ _ HA.out, shl_bit _ (Nat.mod_lt _ (by omega)), hc]
      have h64 : s[0].toNat / 64 = 0 ∨ s[0].toNat / 64 = 1 ∨ s[0].toNat / 64 = 2 ∨ s[0].toNat / 64 = 3 := by omega
      rcases h64 with h | h | h | h <;> simp only [Ws.bit, h, Ws.cells, ws0, Nat.zero_or] <;> rfl
    have hbel : Below w1.heap.size w1 (wA.setCell ⟨w1.heap.size, s[0].toNat / 64, none⟩ (.int .u64 (IntKind.u64.wrap ((2 : Int) ^ (s[0].toNat % 64))))).drew := (HBA.out.trans ((Kb.setCell wA ⟨w1.heap.size, s[0].toNat / 64, none⟩ _).below HBA.out.size (fun i hi => by rw [hi]; exact Nat.le_refl _))).drew
    generalize (wA.setCell ⟨w1.heap.size, s[0].toNat / 64, none⟩ (.int .u64 (IntKind.u64.wrap ((2 : Int) ^ (s[0].toNat % 64))))).drew = wB at hblk hbel ⊢
    obtain ⟨sc, hsc⟩ : ∃ sc, sc = ws0.bit c.toNat := ⟨_, rfl⟩
    obtain ⟨β, hβ⟩ : ∃ β, β = decide (t.data.toList = [c]) := ⟨_, rfl⟩
    have MS := Lib.hid (fun w' nb h => matches_mt w' (.set sc) nb t h (by show 1 ≤ _; omega) (by omega))
    rw [hsc, mt_bit, ← hβ, ← hsc] at MS
    rw [← hsc] at hblk
    have HSC := Lib.hid hsc; have HBE := Lib.hid hβ; have HC := Lib.hid hc; have HBK := Lib.hid hblk; have HBL := Lib.hid hbel
    clear hsc hβ hc hblk hbel q1 f1' hcl hcl2 HA HBA hwA
    go_wp2_with fail
    refine (empty_any _).mono ?_
    rintro e w2 ⟨nb, rfl, hn2, hb2⟩
    have HM := Lib.hid (ME.out w2 nb hn2)
    have HA2 := Lib.hid ((hb2.block _ (lt_of_heap HBK.out)).trans HBK.out)
    have HB2 := Lib.hid (below_tr HBL.out hb2 HBL.out.size)
    clear hn2 hb2
    go_wp2_with fail
    refine HM.out.mono ?_
    rintro e w3 ⟨rfl, hb3⟩
    have hA3 := (hb3.block _ (lt_of_heap HA2.out)).trans HA2.out
    obtain ⟨z0, z1, z2, z3, _, _, _, _⟩ := ws_cells hA3
    have HB3 := Lib.hid (below_tr HB2.out hb3 HB2.out.size)
    have hs1 : (1 : Int) ≤ s.size := by omega
    clear hb3 hA3
    have heq1 : (t.toList == (s.extract 0 1).toList) = β := by
      rw [HBE.out, ByteArray.toList_eq, ByteArray.toList_eq, ← ext1 s hsp, ← HC.out]
      rw [Bool.eq_iff_iff]; simp
    obtain ⟨γ, hγ⟩ : ∃ γ, γ = decide (t.data.toList = s.data.toList) := ⟨_, rfl⟩
    have heq2 : (s.toList == t.toList) = γ := by
      rw [hγ, ByteArray.toList_eq, ByteArray.toList_eq]
      rw [Bool.eq_iff_iff]; simp; exact eq_comm
    have HG := Lib.hid hγ
    clear hγ HBE HC
    cases bt <;> (
      go_wp2_with fail
      refine (set_any sc w3).mono ?_
      rintro e w4 ⟨nb4, rfl, hn4, hb4⟩
      have HM4 := Lib.hid (MS.out w4 nb4 hn4)
      have HB4 := Lib.hid (below_tr HB3.out hb4 HB3.out.size)
      clear hn4 hb4 z0 z1 z2 z3
      go_wp2_with fail
      refine HM4.out.mono ?_
      rintro e w5 ⟨rfl, hb5⟩
      have HB5 := Lib.hid (below_tr HB4.out hb5 HB4.out.size)
      clear hb5
      cases β <;> (
        by_cases h200 : 200 < s.size
        · have h200i : (200 : Int) < s.size := by omega
          go_wp2_with fail
          refine (literal_long s w5 h200).mono ?_
          rintro e w6 ⟨rfl, rfl⟩
          go_wp2
          go_ret
          exact ⟨rfl, below_tr HB0.out HB5.out HB0.out.size⟩
        · have h200i : ¬ (200 : Int) < s.size := by omega
          have hln : s.data.toList.length = s.size := by rw [← Lib.size_eq]
          go_wp2_with fail
          refine (literal_any s w5 (by omega)).mono ?_
          rintro e w6 ⟨nb6, rfl, hn6, hb6⟩
          have HM6 := Lib.hid (matches_mt w6 _ nb6 s hn6 (Nat.le_trans (lit_size _) (by omega)) (by omega))
          rw [mt_lit, decide_eq_true rfl] at HM6
          have HM7 := Lib.hid (fun w' h => matches_mt w' _ nb6 t (hn6.keep (KN.of_below h)) (Nat.le_trans (lit_size _) (by omega)) (by omega))
          rw [mt_lit, ← HG.out] at HM7
          have HB6 := Lib.hid (below_tr HB5.out hb6 HB5.out.size)
          clear hn6 hb6 hln
          go_wp2_with fail
          refine HM6.out.mono ?_
          rintro e w7 ⟨rfl, hb7⟩
          have HM8 := Lib.hid (HM7.out w7 hb7)
          have HB7 := Lib.hid (below_tr HB6.out hb7 HB6.out.size)
          clear hb7
          go_wp2_with fail
          refine HM8.out.mono ?_
          rintro e w8 ⟨rfl, hb8⟩
          have HB8 := Lib.hid (below_tr HB7.out hb8 HB7.out.size)
          clear hb8
          cases γ <;> (
            go_wp2_with fail
            refine (star_nil w8).mono ?_
            rintro e w9 ⟨rfl, rfl⟩
            go_wp2_with fail
            refine (size_nil _).mono ?_
            rintro e w10 ⟨rfl, rfl⟩
            go_wp2_with fail
            refine (kind_nil _).mono ?_
            rintro e w11 ⟨rfl, rfl⟩
            go_wp2_with fail
            refine (parts_nil _).mono ?_
            rintro e w12 ⟨rfl, rfl⟩
            go_wp2
            go_ret
            exact ⟨rfl, below_tr HB0.out HB8.out HB0.out.size⟩)))
theorem law_lits (s t : ByteArray) (w : World) : Calls Try.prog 5 #[.string s, .string t] w (Ans (.bool true) w) := by
  by_cases h : 300 < s.size ∨ 300 < t.size
  · exact lits_long s t w h
  · exact lits_short s t w (by omega) (by omega)
end Go.Proofs.Ytejdfpieblkapaa
