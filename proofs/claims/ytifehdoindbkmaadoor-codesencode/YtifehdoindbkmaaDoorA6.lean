/- What codes.Columns answers; the walk of the law CodesColumns but for the example. -/
import Derived.Test.YtifehdoindbkmaaDoorA5
namespace Go.Proofs.YtifehdoindbkmaaDoor
open Go.RowKit

/-- How far it goes on: behind a code point, or behind one byte. -/
def adv (l : List UInt8) : Nat := match stp l with | some (_, k) => k | none => 1
theorem adv_some {l : List UInt8} {n k : Nat} (h : stp l = some (n, k)) : adv l = k := by unfold adv; rw [h]
theorem adv_none {l : List UInt8} (h : stp l = none) : adv l = 1 := by unfold adv; rw [h]
theorem adv_pos (l : List UInt8) : 1 ≤ adv l := by
  unfold adv
  split
  · rename_i h; exact (stp_len h).1
  · exact Nat.le_refl _
theorem adv_le {l : List UInt8} (h : l ≠ []) : adv l ≤ l.length := by
  unfold adv
  split
  · rename_i h; exact (stp_len h).2.2
  · exact List.length_pos_iff.2 h

def colsF : Nat → List UInt8 → Nat
  | 0, _ => 0
  | f + 1, l => if l = [] then 0 else 1 + colsF f (l.drop (adv l))
theorem colsF_same : ∀ (f g : Nat) (l : List UInt8), l.length ≤ f → l.length ≤ g → colsF f l = colsF g l
  | 0, 0, _, _, _ => rfl
  | 0, g + 1, l, h, _ => by
    have : l = [] := List.eq_nil_of_length_eq_zero (by omega)
    simp [colsF, this]
  | f + 1, 0, l, _, h => by
    have : l = [] := List.eq_nil_of_length_eq_zero (by omega)
    simp [colsF, this]
  | f + 1, g + 1, l, h, h' => by
    simp only [colsF]
    by_cases e : l = []
    · rw [if_pos e, if_pos e]
    · rw [if_neg e, if_neg e, colsF_same f g]
      all_goals
        rw [List.length_drop]
        have := adv_pos l
        omega
def cols (l : List UInt8) : Nat := colsF l.length l
theorem cols_nil : cols [] = 0 := rfl
theorem cols_cons {l : List UInt8} (h : l ≠ []) : cols l = 1 + cols (l.drop (adv l)) := by
  have h1 := List.length_pos_iff.2 h
  unfold cols
  obtain ⟨n, hn⟩ : ∃ n, l.length = n + 1 := ⟨l.length - 1, by omega⟩
  rw [hn, colsF, if_neg h]
  congr 1
  refine colsF_same _ _ _ ?_ (Nat.le_refl _)
  rw [List.length_drop]
  have := adv_pos l
  omega
theorem cols_le : ∀ (n : Nat) (l : List UInt8), l.length ≤ n → cols l ≤ l.length
  | 0, l, h => by
    have : l = [] := List.eq_nil_of_length_eq_zero (by omega)
    subst this; exact Nat.le_refl _
  | n + 1, l, h => by
    by_cases e : l = []
    · subst e; exact Nat.le_refl _
    · rw [cols_cons e]
      have h1 := adv_pos l
      have h2 := adv_le e
      have := cols_le n (l.drop (adv l)) (by rw [List.length_drop]; omega)
      rw [List.length_drop] at this
      omega

theorem stpV_some {l : List UInt8} {n k : Nat} (h : stp l = some (n, k)) : stpV l = .tuple #[.int .i64 n, .int .i64 k, .bool true] := by unfold stpV; rw [h]
theorem stpV_none {l : List UInt8} (h : stp l = none) : stpV l = .tuple #[.int .i64 0, .int .i64 0, .bool false] := by unfold stpV; rw [h]

set_option maxRecDepth 100000 in
set_option maxHeartbeats 2000000 in
theorem columns_any (s : ByteArray) (w : World) (hs : s.size ≤ 1000000) (hT : LenT w) :
    Calls Tryd.prog 28 #[.string s] w fun e w' => e = .returned (.int .i64 (cols s.data.toList)) ∧ Below w.heap.size w w' := by
  obtain ⟨L, hL⟩ : ∃ L, L = s.data.toList := ⟨_, rfl⟩
  have hlen : L.length = s.size := by rw [hL, ← Lib.size_eq]
  have HLN := Lib.hid hlen; have HL := Lib.hid hL
  rw [← hL]
  clear hlen hL
  go_enter Tryd.func28, Tryd.ntmps28
  go_wp2_with fail
  go_loopw [3, 4] (fun c p wr => ∃ (i n : Nat), i ≤ s.size ∧ n ≤ i ∧ p = .int .i64 i ∧ c = .int .i64 n ∧ Hid (n + cols (L.drop i) = cols L) ∧ Below w.heap.size w wr) (fun _ p _ => s.size - (intOf p).toNat)
  case atStart => exact ⟨0, 0, by omega, by omega, rfl, rfl, by show _ = _; simp, Below.refl _ _⟩
  case round =>
    obtain ⟨i, n, hi, hni, rfl, rfl, HC, hb⟩ := hrel
    by_cases hlt : i < s.size
    · have hne : L.drop i ≠ [] := by
        intro e
        have := congrArg List.length e
        rw [List.length_drop, HLN.out, List.length_nil] at this
        omega
      have hcc := cols_cons hne
      rw [List.drop_drop] at hcc
      have ha1 := adv_pos (L.drop i)
      have ha2 := adv_le hne
      rw [List.length_drop, HLN.out] at ha2
      have HCC := Lib.hid hcc
      clear hcc hne
      have hTr : LenT wr := hT.below hb hT.1
      go_wp2_with fail
      refine (step_in s i _ hlt (by omega) hTr).mono ?_
      rw [← HL.out]
      rintro e w1 ⟨rfl, hb1⟩
      have HB1 := Lib.hid (hb.trans (hb1.mono (by have := hb.size; omega)))
      clear hb1
      cases hs' : stp (L.drop i) with
      | some q =>
        obtain ⟨m, k⟩ := q
        rw [stpV_some hs']
        rw [adv_some hs'] at ha1 ha2
        have HA := Lib.hid (adv_some hs')
        clear hs'
        go_wp2
        go_roundw
        case rel =>
          exact ⟨i + k, n + 1, by omega, by omega, by go_num, by go_num, by show _ = _; rw [← HC.out, HCC.out, HA.out]; omega, HB1.out⟩
        case measure => simp [intOf]; omega
      | none =>
        rw [stpV_none hs']
        rw [adv_none hs'] at ha1 ha2
        have HA := Lib.hid (adv_none hs')
        clear hs'
        go_wp2
        go_roundw
        case rel =>
          exact ⟨i + 1, n + 1, by omega, by omega, by go_num, by go_num, by show _ = _; rw [← HC.out, HCC.out, HA.out]; omega, HB1.out⟩
        case measure => simp [intOf]; omega
    · go_wp2
      go_ret
      refine ⟨ret_int ?_, hb⟩
      rw [← HC.out, List.drop_of_length_le (by rw [HLN.out]; omega), cols_nil]; rfl
end Go.Proofs.YtifehdoindbkmaaDoor
