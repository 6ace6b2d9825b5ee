/- The law CodesColumns, walked. -/
import Derived.Test.YtifehdoindbkmaaDoorB2
namespace Go.Proofs.YtifehdoindbkmaaDoor
open Go.RowKit

/-- A law's end: true, and what was there is as it was. -/
def Fine (w : World) (e : Ending) (w' : World) : Prop := e = .returned (.bool true) ∧ Below w.heap.size w w'

set_option maxRecDepth 100000 in
set_option maxHeartbeats 2000000 in
theorem law_columns (s : ByteArray) (w : World) (hs0 : s.size ≤ 9223372036854775807) (hT : LenT w) : Calls Tryd.prog 7 #[.string s] w (Fine w) := by
  by_cases hs : 500 < s.size
  · go_enter Tryd.func7, Tryd.ntmps7
    go_wp2_with fail
    refine (awake_any _ hT).mono ?_
    rintro e w1 ⟨rfl, hb⟩
    go_wp2
    go_ret
    exact ⟨rfl, hb⟩
  · have hs' : s.size ≤ 500 := by omega
    obtain ⟨L, hL⟩ : ∃ L, L = s.data.toList := ⟨_, rfl⟩
    have hlen : L.length = s.size := by rw [hL, ← Lib.size_eq]
    have hcl := cols_le L.length L (Nat.le_refl _)
    rw [hlen] at hcl
    have HLN := Lib.hid hlen; have HL := Lib.hid hL
    clear hlen hL
    go_enter Tryd.func7, Tryd.ntmps7
    go_wp2_with fail
    go_loopw [3, 4] (fun c p wr => ∃ (i n : Nat), i ≤ s.size ∧ n ≤ i ∧ p = .int .i64 i ∧ c = .int .i64 n ∧ Hid (n + cols (L.drop i) = cols L) ∧ Below w.heap.size w wr) (fun _ p _ => s.size - (intOf p).toNat)
    case atStart => exact ⟨0, 0, by omega, by omega, rfl, rfl, by show _ = _; simp, Below.refl _ _⟩
    case round =>
      obtain ⟨i, n, hi, hni, rfl, rfl, HC, hb⟩ := hrel
      by_cases hlt : i < s.size
      · have hne : L.drop i ≠ [] := by
          intro e
          have := congrArg List.length e
          rw [List.length_drop, HLN.out, List.length_nil] at this
          omega
        have hcc := cols_cons hne
        rw [List.drop_drop] at hcc
        have ha1 := adv_pos (L.drop i)
        have ha2 := adv_le hne
        rw [List.length_drop, HLN.out] at ha2
        have HCC := Lib.hid hcc
        clear hcc hne
        have hx : (s.extract i s.size).data.toList = L.drop i := by rw [Lib.extract_data, ← HL.out, List.take_of_length_le (by rw [List.length_drop, HLN.out]; omega)]
        have hxs : (s.extract i s.size).size ≤ 1099511627776 := by rw [Lib.size_eq, hx, List.length_drop, HLN.out]; omega
        have HR := fun W => rstep_any (s.extract i s.size) W hxs
        rw [hx] at HR
        clear hx
        go_wp2_with fail
        refine (HR _).mono ?_
        rintro e w1 ⟨rfl, hb1⟩
        have HB1 := Lib.hid (hb.trans (hb1.mono hb.size))
        clear hb1 HR
        cases hs' : stp (L.drop i) with
        | some q =>
          obtain ⟨m, k⟩ := q
          rw [rstV_some hs']
          rw [adv_some hs'] at ha1 ha2
          have HA := Lib.hid (adv_some hs')
          clear hs'
          go_wp2
          go_roundw
          case rel =>
            exact ⟨i + k, n + 1, by omega, by omega, by go_num, by go_num, by show _ = _; rw [← HC.out, HCC.out, HA.out]; omega, HB1.out⟩
          case measure => simp [intOf]; omega
        | none =>
          rw [rstV_none hs']
          rw [adv_none hs'] at ha1 ha2
          have HA := Lib.hid (adv_none hs')
          clear hs'
          go_wp2
          go_roundw
          case rel =>
            exact ⟨i + 1, n + 1, by omega, by omega, by go_num, by go_num, by show _ = _; rw [← HC.out, HCC.out, HA.out]; omega, HB1.out⟩
          case measure => simp [intOf]; omega
      · have hn : n = cols L := by
          rw [← HC.out, List.drop_of_length_le (by rw [HLN.out]; omega), cols_nil]; rfl
        subst hn
        have hTr : LenT wr := hT.below hb hT.1
        have HCo := columns_any s wr (by omega) hTr
        rw [← HL.out] at HCo
        go_wp2_with fail
        refine HCo.mono ?_
        rintro e w1 ⟨rfl, hb1⟩
        have hb2 := hb.trans (hb1.mono hb.size)
        clear HCo hb1
        have hT1 : LenT w1 := hT.below hb2 hT.1
        go_wp2_with fail
        refine (awake_any _ hT1).mono ?_
        rintro e w2 ⟨rfl, hb3⟩
        go_wp2
        go_ret
        exact ⟨rfl, hb2.trans (hb3.mono hb2.size)⟩
end Go.Proofs.YtifehdoindbkmaaDoor
