/- What edits.Compose answers. -/
import Derived.Test.YtpifobaejmfppaaVd
import Derived.Test.YtpifobaejmfppaaLaw1
namespace Go.Proofs.Ytpifobaejmfppaa
open Go.RowKit

theorem tot_le_appl (S : List UInt8) : ∀ (l : List Ed) (a : Nat), tot l ≤ (appl S a l).length
  | [], _ => by simp [tot]
  | e :: r, a => by
    have ih := tot_le_appl S r e.t.toNat
    have h1 : e.bs.length = e.s.size := Array.length_toList
    rw [appl_cons]
    simp only [tot, List.length_append]
    omega

set_option maxRecDepth 100000 in
set_option maxHeartbeats 1000000 in
theorem compose_no1 (s : ByteArray) (A1 : Option Addr) (len1 cap1 : Nat) (a : List Ed) (v2 : Value) (w : World) (hlen1 : a.length = len1) (hl1 : len1 ≤ cap1) (hcap1 : cap1 ≤ 9223372036854775807) (hE1 : EdsAt w w.heap.size A1 a)
    (hR : rightB 0 s.size a = false) :
    Calls Try.prog 23 #[.string s, .slice A1 len1 cap1, v2] w fun e w' => e = .returned (.tuple #[.slice none 0 0, .int .i64 2]) ∧ Below w.heap.size w w' := by
  have HR := Lib.hid hR; clear hR
  have HL := Lib.hid hlen1; clear hlen1
  have hb0 := (Below.refl w.heap.size w).alloc (Nat.le_refl _) (.cells #[.string s] 9)
  have HE := Lib.hid ((hE1.below hb0).more hb0.size)
  go_enter Try.func23, Try.ntmps23
  go_wp2_with fail
  refine (right_any s.size A1 len1 cap1 a _ HL.out hl1 hcap1 HE.out).mono ?_
  rintro e w1 ⟨rfl, hb1⟩
  rw [HR.out]
  have hb1' := below_tr hb0 hb1 hb0.size
  go_wp2
  go_ret2
  exact ⟨rfl, hb1'⟩

set_option maxRecDepth 100000 in
set_option maxHeartbeats 1000000 in
theorem compose_no2 (s : ByteArray) (A1 : Option Addr) (len1 cap1 : Nat) (a : List Ed) (A2 : Option Addr) (len2 cap2 : Nat) (b : List Ed) (w : World) (hlen1 : a.length = len1) (hl1 : len1 ≤ cap1) (hcap1 : cap1 ≤ 9223372036854775807) (hE1 : EdsAt w w.heap.size A1 a)
    (hlen2 : b.length = len2) (hl2 : len2 ≤ cap2) (hcap2 : cap2 ≤ 9223372036854775807) (hE2 : EdsAt w w.heap.size A2 b)
    (hsm : len1 ≤ 1048576) (hR : rightB 0 s.size a = true) (hS : s.size + tot a ≤ 1099511627776) (hR2 : rightB 0 ((appl s.data.toList 0 a).length : Int) b = false) :
    Calls Try.prog 23 #[.string s, .slice A1 len1 cap1, .slice A2 len2 cap2] w fun e w' => e = .returned (.tuple #[.slice none 0 0, .int .i64 2]) ∧ Below w.heap.size w w' := by
  have HM := Lib.hid (right_mod hR (by omega) (by omega))
  have hmv : mv s.size a = ((s.size : Int), sumGr a) := by rw [mv, mv_right _ _ _ _ _ hR, Int.zero_add]
  have hsz : s.data.toList.length = s.size := (Lib.size_eq s).symm
  have hal := appl_len s.data.toList a 0 (by omega) (by rw [hsz]; exact hR)
  rw [hsz] at hal
  have hsg := sumGr_le a
  obtain ⟨z, hz⟩ : ∃ z, z = (appl s.data.toList 0 a).length := ⟨_, rfl⟩
  rw [← hz] at hal hR2
  have HV := Lib.hid (show (mv s.size a).1 + (mv s.size a).2 = (z : Int) by rw [hmv]; simp at hal ⊢; omega)
  have hzb : z ≤ 1099511627776 := by simp at hal; omega
  clear hmv hz hal hsz
  have HR := Lib.hid hR; clear hR
  have HR2 := Lib.hid hR2; clear hR2
  have HL := Lib.hid hlen1; clear hlen1
  have HL2 := Lib.hid hlen2; clear hlen2
  have hb0 := (Below.refl w.heap.size w).alloc (Nat.le_refl _) (.cells #[.string s] 9)
  have HE := Lib.hid ((hE1.below hb0).more hb0.size)
  go_enter Try.func23, Try.ntmps23
  go_wp2_with fail
  refine (right_any s.size A1 len1 cap1 a _ HL.out hl1 hcap1 HE.out).mono ?_
  rintro e w1 ⟨rfl, hb1⟩
  rw [HR.out]
  have hb1' := below_tr hb0 hb1 hb0.size
  have hc1 : w1.cell? ⟨w.heap.size, 0, none⟩ = some (.string s) := by
    rw [hb1.cell (by simp)]; exact Lib.cell_of_heap (heap_alloc_new w (.cells #[.string s] 9)) 0
  have HE1 := Lib.hid ((hE1.below hb1').more hb1'.size)
  go_wp2_with fail
  refine (move_any s.size A1 len1 cap1 a _ HL.out hl1 hcap1 hsm HE1.out HM.out (by omega) (by omega)).mono ?_
  rintro e w2 ⟨rfl, hb2⟩
  rw [HV.out]
  have hb2' := below_tr hb1' hb2 hb1'.size
  have HE2 := Lib.hid ((hE2.below hb2').more hb2'.size)
  clear hb2 hc1
  go_wp2_with fail
  refine (right_any z A2 len2 cap2 b _ HL2.out hl2 hcap2 HE2.out).mono ?_
  rintro e w3 ⟨rfl, hb3⟩
  rw [HR2.out]
  have hb3' := below_tr hb2' hb3 hb2'.size
  go_wp2
  go_ret2
  exact ⟨rfl, hb3'⟩
end Go.Proofs.Ytpifobaejmfppaa
