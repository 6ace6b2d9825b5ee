/- The law EditsApply, walked: whatever the text and the edits, it answers true, and turns nothing that was there. -/
import Derived.Test.YtpifobaejmfppaaH
namespace Go.Proofs.Ytpifobaejmfppaa
open Go.RowKit

theorem tot_turn (S : List UInt8) : ∀ (l : List Ed) (m : Int), tot (turn S m l) ≤ S.length * l.length
  | [], _ => by simp [turn, tot]
  | e :: r, m => by
    have ih := tot_turn S r (m + e.gr)
    have h1 : (⟨((S.drop e.f.toNat).take (e.t.toNat - e.f.toNat)).toArray⟩ : ByteArray).size ≤ S.length := by
      rw [Lib.size_eq]; simp only [List.length_take, List.length_drop]; omega
    simp only [turn, tot, List.length_cons, Nat.mul_add, Nat.mul_one]
    omega

theorem small_of_not_great {l : List Ed} (h : greatB l = false) : l.length ≤ 30 ∧ tot l ≤ 3000 := by
  unfold greatB at h
  rw [Bool.or_eq_false_iff] at h
  have h1 := tot_le_of_small l h.1
  have h2 := h.2
  simp at h2
  omega

/-- A law's end: true, and what was there is as it was. -/
def Fine (w : World) (e : Ending) (w' : World) : Prop := e = .returned (.bool true) ∧ Below w.heap.size w w'

set_option maxHeartbeats 1000000 in
theorem law_apply_great (s : ByteArray) (A : Option Addr) (len cap : Nat) (l : List Ed) (w : World) (hlen : l.length = len) (hl : len ≤ cap) (hcap : cap ≤ 9223372036854775807) (hs : s.size ≤ 9223372036854775807) (hE : EdsAt w w.heap.size A l)
    (h : 300 < s.size ∨ greatB l = true) : Calls Try.prog 3 #[.string s, .slice A len cap] w (Fine w) := by
  have HC := Lib.hid (great_any A len cap l w hlen hl hcap hE); clear hlen
  by_cases h3 : 300 < s.size
  · clear h
    go_enter Try.func3, Try.ntmps3
    go_wp2_with fail
    refine (awake_any _).mono ?_
    rintro e w1 ⟨rfl, hb⟩
    go_wp2
    go_ret
    exact ⟨rfl, hb⟩
  · have hg := Lib.hid (h.resolve_left h3)
    clear h
    go_enter Try.func3, Try.ntmps3
    go_wp2_with fail
    refine HC.out.mono ?_
    rintro e w1 ⟨rfl, rfl⟩
    rw [hg.out]
    go_wp2_with fail
    refine (awake_any _).mono ?_
    rintro e w1 ⟨rfl, hb⟩
    go_wp2
    go_ret
    exact ⟨rfl, hb⟩

set_option maxHeartbeats 1000000 in
theorem law_apply_no (s : ByteArray) (A : Option Addr) (len cap : Nat) (l : List Ed) (w : World) (hlen : l.length = len) (hl : len ≤ cap) (hcap : cap ≤ 9223372036854775807) (hE : EdsAt w w.heap.size A l)
    (h3 : s.size ≤ 300) (hg : greatB l = false) (hR : rightB 0 s.size l = false) : Calls Try.prog 3 #[.string s, .slice A len cap] w (Fine w) := by
  have HC := Lib.hid (great_any A len cap l w hlen hl hcap hE)
  have HL := Lib.hid hlen; clear hlen
  have HG := Lib.hid hg; clear hg
  have HR := Lib.hid hR; clear hR
  go_enter Try.func3, Try.ntmps3
  go_wp2_with fail
  refine HC.out.mono ?_
  rintro e w0 ⟨rfl, rfl⟩
  rw [HG.out]
  go_wp2_with fail
  refine (apply_no s A len cap l _ HL.out hl hcap (by omega) hE HR.out).mono ?_
  rintro e w1 ⟨rfl, hb1⟩
  go_wp2_with fail
  refine (turn_no s A len cap l _ HL.out hl hcap (by omega) ((hE.below hb1).more hb1.size) HR.out).mono ?_
  rintro e w2 ⟨rfl, hb2⟩
  have hb2' := below_tr hb1 hb2 hb1.size
  clear hb2
  go_wp2_with fail
  refine (rright_any s.size A len cap l _ HL.out hl hcap ((hE.below hb2').more hb2'.size)).mono ?_
  rintro e w3 ⟨rfl, hb3⟩
  rw [HR.out]
  have hb3' := below_tr hb2' hb3 hb2'.size
  clear hb3
  go_wp2_with fail
  refine (right_any s.size A len cap l _ HL.out hl hcap ((hE.below hb3').more hb3'.size)).mono ?_
  rintro e w4 ⟨rfl, hb4⟩
  rw [HR.out]
  have hb4' := below_tr hb3' hb4 hb3'.size
  clear hb4
  go_wp2_with fail
  refine (awake_any _).mono ?_
  rintro e w5 ⟨rfl, hb5⟩
  have hb5' := below_tr hb4' hb5 hb4'.size
  clear hb5
  go_wp2
  go_ret
  exact ⟨rfl, hb5'⟩

set_option maxHeartbeats 1000000 in
theorem law_apply_yes (s : ByteArray) (A : Option Addr) (len cap : Nat) (l : List Ed) (w : World) (hlen : l.length = len) (hl : len ≤ cap) (hcap : cap ≤ 9223372036854775807) (hE : EdsAt w w.heap.size A l)
    (h3 : s.size ≤ 300) (hg : greatB l = false) (hR : rightB 0 s.size l = true) : Calls Try.prog 3 #[.string s, .slice A len cap] w (Fine w) := by
  have HC := Lib.hid (great_any A len cap l w hlen hl hcap hE)
  have hsm := small_of_not_great hg
  have hS : s.size + tot l ≤ 1099511627776 := by omega
  have hlm : len ≤ 30 := by omega
  have hsz : s.data.toList.length = s.size := (Lib.size_eq s).symm
  have hR' : rightB ((0 : Nat) : Int) s.data.toList.length l = true := by rw [hsz]; exact hR
  have hal := appl_len s.data.toList l 0 (Nat.zero_le _) hR'
  have hTs : ((⟨(appl s.data.toList 0 l).toArray⟩ : ByteArray).size : Int) = s.size + sumGr l := by
    rw [Lib.size_eq]; simp only [hal, hsz]; omega
  have hsg := sumGr_le l
  have hUr : rightB 0 ((⟨(appl s.data.toList 0 l).toArray⟩ : ByteArray).size : Int) (turn s.data.toList 0 l) = true := by
    have := turn_right s.data.toList _ l 0 0 (Nat.zero_le _) hR' (by omega) (show _ = ((⟨(appl s.data.toList 0 l).toArray⟩ : ByteArray).size : Int) by rw [hTs, hsz]; omega)
    simpa using this
  have hUa : appl (⟨(appl s.data.toList 0 l).toArray⟩ : ByteArray).data.toList 0 (turn s.data.toList 0 l) = s.data.toList := by
    have := turn_appl s.data.toList (appl s.data.toList 0 l) l [] 0 0 (Nat.zero_le _) hR' (by simp) (by simp)
    simpa using this
  have hUt := tot_turn s.data.toList l 0
  have hUl := turn_len s.data.toList l 0
  have hUS : (⟨(appl s.data.toList 0 l).toArray⟩ : ByteArray).size + tot (turn s.data.toList 0 l) ≤ 1099511627776 := by
    have h1 : s.data.toList.length * l.length ≤ 300 * 30 := Nat.mul_le_mul (by omega) (by omega)
    omega
  have HUr := Lib.hid hUr; have HUa := Lib.hid hUa; have HUS := Lib.hid hUS
  have HUl := Lib.hid (hUl.trans hlen)
  have HTs := Lib.hid (show (⟨(appl s.data.toList 0 l).toArray⟩ : ByteArray).size ≤ 1099511627776 by omega)
  clear hUr hUa hUS hUt hUl hTs hal hR' hsz hsm hsg
  have HL := Lib.hid hlen; clear hlen
  have HG := Lib.hid hg; clear hg
  have HR := Lib.hid hR; clear hR
  generalize hT : (⟨(appl s.data.toList 0 l).toArray⟩ : ByteArray) = T at *
  have HT := Lib.hid hT; clear hT
  generalize hU : turn s.data.toList 0 l = U at *
  have HU := Lib.hid hU; clear hU
  go_enter Try.func3, Try.ntmps3
  go_wp2_with fail
  refine HC.out.mono ?_
  rintro e w0 ⟨rfl, rfl⟩
  rw [HG.out]
  go_wp2_with fail
  refine (apply_yes s A len cap l _ HL.out hl hcap (by omega) hE HR.out hS).mono ?_
  rintro e w1 ⟨rfl, hb1⟩
  rw [HT.out]
  go_wp2_with fail
  refine (turn_yes s A len cap l _ HL.out hl hcap (by omega) ((hE.below hb1).more hb1.size) HR.out hS).mono ?_
  rw [HU.out]
  rintro e w2 ⟨A2, c2, rfl, g1, g2, ho, hb2⟩
  rw [HUl.out] at ho g1 ⊢
  have hb2' := below_tr hb1 hb2 hb1.size
  have HE2 := Lib.hid (eds_of_own ho)
  clear hb2 ho
  go_wp2_with fail
  refine (rright_any s.size A len cap l _ HL.out hl hcap ((hE.below hb2').more hb2'.size)).mono ?_
  rintro e w3 ⟨rfl, hb3⟩
  rw [HR.out]
  have hb3' := below_tr hb2' hb3 hb2'.size
  have HE3 := Lib.hid ((HE2.out.below hb3).more hb3.size)
  clear hb3 HE2
  go_wp2_with fail
  refine (right_any s.size A len cap l _ HL.out hl hcap ((hE.below hb3').more hb3'.size)).mono ?_
  rintro e w4 ⟨rfl, hb4⟩
  rw [HR.out]
  have hb4' := below_tr hb3' hb4 hb3'.size
  have HE4 := Lib.hid ((HE3.out.below hb4).more hb4.size)
  clear hb4 HE3
  go_wp2_with fail
  refine (rapply_any s A len cap l _ HL.out hl hcap ((hE.below hb4').more hb4'.size) HR.out hS).mono ?_
  rintro e w5 ⟨rfl, hb5⟩
  rw [HT.out]
  have hb5' := below_tr hb4' hb5 hb4'.size
  have HE5 := Lib.hid ((HE4.out.below hb5).more hb5.size)
  clear hb5 HE4
  go_wp2_with fail
  have hTb := HTs.out
  refine (rright_any T.size A2 len c2 U _ HUl.out g1 g2 HE5.out).mono ?_
  rintro e w6 ⟨rfl, hb6⟩
  rw [HUr.out]
  have hb6' := below_tr hb5' hb6 hb5'.size
  have HE6 := Lib.hid ((HE5.out.below hb6).more hb6.size)
  clear hb6 HE5
  go_wp2_with fail
  refine (rapply_any T A2 len c2 U _ HUl.out g1 g2 HE6.out HUr.out HUS.out).mono ?_
  rintro e w7 ⟨rfl, hb7⟩
  rw [HUa.out, Lib.mk_data]
  have hb7' := below_tr hb6' hb7 hb6'.size
  clear hb7 HE6
  go_wp2_with fail
  refine (awake_any _).mono ?_
  rintro e w8 ⟨rfl, hb8⟩
  have hb8' := below_tr hb7' hb8 hb7'.size
  clear hb8
  go_wp2
  go_ret
  exact ⟨rfl, hb8'⟩

theorem law_apply (s : ByteArray) (A : Option Addr) (len cap : Nat) (l : List Ed) (w : World) (hlen : l.length = len) (hl : len ≤ cap) (hcap : cap ≤ 9223372036854775807) (hs : s.size ≤ 9223372036854775807) (hE : EdsAt w w.heap.size A l) :
    Calls Try.prog 3 #[.string s, .slice A len cap] w (Fine w) := by
  by_cases h3 : 300 < s.size
  · exact law_apply_great s A len cap l w hlen hl hcap hs hE (.inl h3)
  · cases hg : greatB l with
    | true => exact law_apply_great s A len cap l w hlen hl hcap hs hE (.inr hg)
    | false =>
      cases hR : rightB 0 s.size l with
      | true => exact law_apply_yes s A len cap l w hlen hl hcap hE (by omega) hg hR
      | false => exact law_apply_no s A len cap l w hlen hl hcap hE (by omega) hg hR
end Go.Proofs.Ytpifobaejmfppaa
