/- edits.Between, and the law EditsBetween, walked. -/
import Derived.Test.YtpifobaejmfppaaL
import Derived.Test.YtpifobaejmfppaaLaw1
namespace Go.Proofs.Ytpifobaejmfppaa
open Go.RowKit

/-- What a call that answers edits in new memory leaves. -/
def EdsNew (l : List Ed) (w : World) (e : Ending) (w' : World) : Prop :=
  ∃ A c, e = .returned (.slice A l.length c) ∧ w'.ownsRow w.heap.size 35 3 (.slice A l.length c) l.length (edCells l) ∧ Below w.heap.size w w'

theorem below_of_grown {w w' : World} {row : Option Nat} {B : Nat} (hg : w.grownBy w' row) (hB : B ≤ w.heap.size) (hr : ∀ g, row = some g → B ≤ g) : Below B w w' := (Below.refl B w).grown hg hB hr

set_option maxHeartbeats 400000 in
theorem between_any (a b : ByteArray) (w : World) (ha : a.size ≤ 1099511627776) (hb : b.size ≤ 1099511627776) :
    Calls Try.prog 22 #[.string a, .string b] w (EdsNew (leanOf a.data.toList ⟨0, a.size, b⟩) w) := by
  go_enter Try.func22, Try.ntmps22
  go_wp2_with fail
  refine (appendLean_any a b 0 a.size none 0 0 w.heap.size [] w (World.ownsRow_nil _ _ _ _) (Nat.le_refl _) (by omega) (by omega) (by omega) (by omega) ha hb).mono ?_
  rintro e w1 ⟨A, c, rfl, ho, hg, _⟩
  simp only [Nat.zero_add, List.nil_append] at ho ⊢
  have HO := Lib.hid ho
  have hbw : Below w.heap.size w w1 := below_of_grown hg (Nat.le_refl _) (fun g h => by simp [Value.ownBlock] at h)
  clear ho hg
  go_wp2
  refine bodyPost_ret (v := .slice A (leanOf a.data.toList ⟨0, a.size, b⟩).length c) (by simp [results, Try.results22, go_sem]) rfl ?_
  exact ⟨A, c, rfl, HO.out, hbw⟩

theorem goneOf_all (a b : ByteArray) : goneOf a.data.toList ⟨0, a.size, b⟩ = a.data.toList := by
  unfold goneOf
  have hl : a.data.toList.length = a.size := (Lib.size_eq a).symm
  show (a.data.toList.drop 0).take ((a.size : Int).toNat - 0) = _
  rw [List.drop_zero]
  exact List.take_of_length_le (by rw [hl]; omega)

theorem ba_ext {a b : ByteArray} (h : a.data.toList = b.data.toList) : a = b := by
  rw [← Lib.mk_data a, ← Lib.mk_data b, h]

set_option maxRecDepth 100000 in
set_option maxHeartbeats 1000000 in
theorem law_between_idle (a b : ByteArray) (w : World) (h : 300 < a.size ∨ 300 < b.size) : Calls Try.prog 5 #[.string a, .string b] w (Fine w) := by
  by_cases h3 : 300 < a.size
  · clear h
    go_enter Try.func5, Try.ntmps5
    go_wp2_with fail
    refine (awake_any _).mono ?_
    rintro e w1 ⟨rfl, hb⟩
    go_wp2
    go_ret
    exact ⟨rfl, hb⟩
  · have h4 := h.resolve_left h3
    clear h
    go_enter Try.func5, Try.ntmps5
    go_wp2_with fail
    refine (awake_any _).mono ?_
    rintro e w1 ⟨rfl, hb⟩
    go_wp2
    go_ret
    exact ⟨rfl, hb⟩

set_option maxRecDepth 100000 in
set_option maxHeartbeats 1000000 in
theorem law_between_same (a : ByteArray) (w : World) (ha : a.size ≤ 300) : Calls Try.prog 5 #[.string a, .string a] w (Fine w) := by
  have hl : leanOf a.data.toList ⟨0, a.size, a⟩ = [] := leanOf_same (goneOf_all a a)
  have HL := Lib.hid hl; clear hl
  have g3 : decide (300 < (a.size : Int)) = false := by simp; omega
  go_enter Try.func5, Try.ntmps5
  go_wp2_with fail
  refine (between_any a a _ (by omega) (by omega)).mono ?_
  rw [HL.out]
  rintro e w1 ⟨A, c, rfl, _, hb1⟩
  simp only [List.length_nil]
  go_wp2_with fail
  refine (awake_any _).mono ?_
  rintro e w2 ⟨rfl, hb2⟩
  have hb2' := below_tr hb1 hb2 hb1.size
  clear hb2
  go_wp2
  go_ret
  exact ⟨rfl, hb2'⟩

set_option maxRecDepth 100000 in
set_option maxHeartbeats 2000000 in
theorem law_between_other (a b : ByteArray) (w : World) (ha : a.size ≤ 300) (hb : b.size ≤ 300) (hne : a ≠ b) : Calls Try.prog 5 #[.string a, .string b] w (Fine w) := by
  have hsa : a.data.toList.length = a.size := (Lib.size_eq a).symm
  have hga := goneOf_all a b
  have hneq : goneOf a.data.toList ⟨0, a.size, b⟩ ≠ (⟨0, a.size, b⟩ : Ed).bs := by rw [hga]; exact fun h => hne (ba_ext h)
  have hnn : leanOf a.data.toList ⟨0, a.size, b⟩ ≠ [] := by rw [leanOf_diff hneq]; simp
  obtain ⟨e, he⟩ : ∃ e, e ∈ leanOf a.data.toList ⟨0, a.size, b⟩ := List.exists_mem_of_ne_nil _ hnn
  obtain ⟨hL, hf, ht, hbs, k1, k2, k3, hg, _⟩ := leanOf_spec a.data.toList ⟨0, a.size, b⟩ e (by simp) (by simp) (by simp [hsa]) he
  have hok := leanOf_ok a.data.toList ⟨0, a.size, b⟩ e (by simp) (by simp) (by simp [hsa]) he
  have hap : appl a.data.toList 0 [e] = b.data.toList := by
    have := leanOf_appl a.data.toList ⟨0, a.size, b⟩ [] [] 0 (by simp) (by simp) (by simp [hsa]) (fun x hx => by
      simp only [appl]
      have hx' : x ≤ a.data.toList.length := by rw [hsa]; simpa using hx
      show (a.data.toList.drop x).take ((a.size : Int).toNat - x) ++ a.data.toList.drop (a.size : Int).toNat = _
      have y1 : (a.data.toList.drop x).take ((a.size : Int).toNat - x) = a.data.toList.drop x := List.take_of_length_le (by rw [List.length_drop, hsa]; omega)
      have y2 : a.data.toList.drop (a.size : Int).toNat = [] := List.drop_of_length_le (by rw [hsa]; omega)
      rw [y1, y2, List.append_nil])
    rw [hL] at this
    have h2 : appl a.data.toList 0 ((⟨0, a.size, b⟩ : Ed) :: []) = b.data.toList := by
      rw [appl_cons, appl]
      show (a.data.toList.drop 0).take 0 ++ (b.data.toList ++ a.data.toList.drop (a.size : Int).toNat) = _
      have y2 : a.data.toList.drop (a.size : Int).toNat = [] := List.drop_of_length_le (by rw [hsa]; omega)
      rw [y2]; simp
    rw [List.append_nil] at this
    rw [this, h2]
  have hes : e.s.size ≤ b.size := by
    have h1 := putOf_len (goneOf a.data.toList ⟨0, a.size, b⟩) (⟨0, a.size, b⟩ : Ed).bs
    rw [← hbs, Ed.bs_len] at h1
    have h2 : (⟨0, a.size, b⟩ : Ed).bs.length = b.size := Ed.bs_len _
    omega
  have hr : rightB 0 a.size [e] = true := by
    rw [rightB_cons, Bool.and_eq_true, Ed.okB_iff]
    exact ⟨⟨by simpa using k1, k2, by simpa using k3⟩, rfl⟩
  have HL := Lib.hid hL; have HR := Lib.hid hr; have HAP := Lib.hid hap; have HOK := Lib.hid hok
  have hf0 : 0 ≤ e.f := by simpa using k1
  have ht1 : e.t ≤ a.size := by simpa using k3
  have htot : tot [e] = e.s.size := by simp [tot]
  have HTO := Lib.hid htot
  have n1 : (a.toList == b.toList) = false := by
    rw [beq_eq_false_iff_ne, Lib.toList_data, Lib.toList_data]; exact fun h => hne (ba_ext h)
  clear hL hr hap hok hbs hg hf ht he hnn hneq hga hsa k1 k3 htot hne
  have g3 : decide (300 < (a.size : Int)) = false := by simp; omega
  have g4 : decide (300 < (b.size : Int)) = false := by simp; omega
  go_enter Try.func5, Try.ntmps5
  go_wp2_with fail
  refine (between_any a b _ (by omega) (by omega)).mono ?_
  rw [HL.out]
  rintro x w1 ⟨A, c, rfl, ho, hb1⟩
  simp only [List.length_singleton] at ho ⊢
  have HC := Lib.hid (own_cap ho)
  have HE := Lib.hid (eds_of_own ho)
  clear ho
  go_wp2_with fail
  refine (rright_any a.size A 1 c [e] _ rfl HC.out.1 HC.out.2 HE.out).mono ?_
  rintro x w2 ⟨rfl, hb2⟩
  rw [HR.out]
  have HE2 := Lib.hid ((HE.out.below hb2).more hb2.size)
  have hb2' := below_tr hb1 hb2 hb1.size
  clear hb2 HE
  go_wp2_with fail
  refine (rapply_any a A 1 c [e] _ rfl HC.out.1 HC.out.2 HE2.out HR.out (by rw [HTO.out]; omega)).mono ?_
  rintro x w3 ⟨rfl, hb3⟩
  rw [HAP.out, Lib.mk_data]
  have HE3 := Lib.hid ((HE2.out.below hb3).more hb3.size)
  have hb3' := below_tr hb2' hb3 hb2'.size
  clear hb3 HE2
  obtain ⟨ad, hA, hab, c0, c1, c2⟩ := HE3.out 0 e rfl
  subst hA
  have hz : ad.add (0 * 3) = ad := rfl
  rw [hz] at c0 c1 c2
  clear hz
  go_wp2_with fail
  refine (rlean_any a e.s e.f e.t _ hf0 k2 ht1 (by omega) (by omega) HOK.out).mono ?_
  rintro x w4 ⟨rfl, hb4⟩
  have hb4' := below_tr hb3' hb4 hb3'.size
  clear hb4 c0 c1 c2
  go_wp2_with fail
  refine (awake_any _).mono ?_
  rintro x w5 ⟨rfl, hb5⟩
  have hb5' := below_tr hb4' hb5 hb4'.size
  clear hb5
  go_wp2
  go_ret
  exact ⟨rfl, hb5'⟩

theorem law_between (a b : ByteArray) (w : World) : Calls Try.prog 5 #[.string a, .string b] w (Fine w) := by
  by_cases h : 300 < a.size ∨ 300 < b.size
  · exact law_between_idle a b w h
  · by_cases he : a = b
    · subst he; exact law_between_same a w (by omega)
    · exact law_between_other a b w (by omega) (by omega) he
end Go.Proofs.Ytpifobaejmfppaa
