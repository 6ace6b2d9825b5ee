/- How many bytes two texts have the same at both ends: the closures of appendLean, and sameBytes with each of them. -/
import Derived.Test.YtpifobaejmfppaaLm
import Derived.Test.YtpifobaejmfppaaG
namespace Go.Proofs.Ytpifobaejmfppaa
open Go.RowKit

theorem byte_at (g : ByteArray) (i : Nat) (a : UInt8) (h : g.data.toList[i]? = some a) : ∃ hi : i < g.size, g[i]'hi = a := by
  obtain ⟨h1, h2⟩ := List.getElem?_eq_some_iff.1 h
  have hi : i < g.size := by rw [Lib.size_eq]; exact h1
  exact ⟨hi, h2⟩

theorem u8_beq (a b : UInt8) : (((a.toNat : Nat) : Int) == ((b.toNat : Nat) : Int)) = (a == b) := by
  rw [Bool.eq_iff_iff, beq_iff_eq, beq_iff_eq]
  constructor
  · intro h; exact UInt8.toNat_inj.1 (by omega)
  · rintro rfl; rfl

def OneStr (w : World) (b : Nat) (g : ByteArray) : Prop := w.heap[b]? = some (.cells #[.string g] 9 (0, 0))
theorem OneStr.cell {w : World} {b : Nat} {g : ByteArray} (h : OneStr w b g) : w.cell? ⟨b, 0, none⟩ = some (.string g) := by rw [Lib.cell_of_heap h]; rfl
theorem OneStr.frozen {w : World} {b : Nat} {g : ByteArray} (h : OneStr w b g) : w.frozen? ⟨b, 0, none⟩ = false := Lib.frozen_of_heap h 0
theorem OneStr.lt {w : World} {b : Nat} {g : ByteArray} (h : OneStr w b g) : b < w.heap.size := by
  rcases Nat.lt_or_ge b w.heap.size with h' | h'
  · exact h'
  · unfold OneStr at h; simp [Array.getElem?_eq_none h'] at h
theorem OneStr.below {w w' : World} {b B : Nat} {g : ByteArray} (h : OneStr w b g) (hb : Below B w w') (hlt : b < B) : OneStr w' b g := (hb.block b hlt).trans h

set_option maxHeartbeats 400000 in
theorem look1_any (bg bp i : Nat) (g p : ByteArray) (a b : UInt8) (w : World) (hg : OneStr w bg g) (hp : OneStr w bp p) (ha : g.data.toList[i]? = some a) (hb : p.data.toList[i]? = some b) (_hgs : g.size ≤ 1099511627776) :
    Calls Try.prog 70 #[.int .i64 i, .pointer (some ⟨bg, 0, none⟩), .pointer (some ⟨bp, 0, none⟩)] w fun e w' => e = .returned (.bool (a == b)) ∧ Below w.heap.size w w' := by
  obtain ⟨h1, e1⟩ := byte_at g i a ha
  obtain ⟨h2, e2⟩ := byte_at p i b hb
  have c1 := hg.cell
  have c2 := hp.cell
  have i1 : (i : Int) < g.size := by omega
  have i2 : (i : Int) < p.size := by omega
  have i0 : (0 : Int) ≤ i := by omega
  have E1 := Lib.hid e1
  have E2 := Lib.hid e2
  clear e1 e2 ha hb
  go_enter Try.func70, Try.ntmps70
  go_wp2_with fail
  go_quiet (fail)
  go_wp2
  go_ret
  refine ⟨ret_bool ?_, below_drewN (Below.refl _ _) _⟩
  rw [E1.out, E2.out]
  exact u8_beq a b

set_option maxHeartbeats 1000000 in
theorem look2_any (bg bp i : Nat) (g p : ByteArray) (a b : UInt8) (w : World) (hg : OneStr w bg g) (hp : OneStr w bp p) (hig : i < g.size) (hip : i < p.size) (ha : g.data.toList[g.size - 1 - i]? = some a) (hb : p.data.toList[p.size - 1 - i]? = some b) (hgs : g.size ≤ 1099511627776) (hps : p.size ≤ 1099511627776) :
    Calls Try.prog 71 #[.int .i64 i, .pointer (some ⟨bg, 0, none⟩), .pointer (some ⟨bp, 0, none⟩)] w fun e w' => e = .returned (.bool (a == b)) ∧ Below w.heap.size w w' := by
  obtain ⟨dg, hdg⟩ : ∃ d, d = g.size - 1 - i := ⟨_, rfl⟩
  obtain ⟨dp, hdp⟩ : ∃ d, d = p.size - 1 - i := ⟨_, rfl⟩
  rw [← hdg] at ha
  rw [← hdp] at hb
  obtain ⟨h1, e1⟩ := byte_at g _ a ha
  obtain ⟨h2, e2⟩ := byte_at p _ b hb
  have c1 := hg.cell
  have c2 := hp.cell
  have E1 := Lib.hid e1
  have E2 := Lib.hid e2
  clear e1 e2 ha hb
  have p1 : IntKind.i64.wrap ((g.size : Int) - 1) = (g.size : Int) - 1 := IntWalk.i64_in _ (by omega)
  have p2 : IntKind.i64.wrap ((g.size : Int) - 1 - i) = (dg : Int) := by rw [IntWalk.i64_in _ (by omega)]; omega
  have r1 : IntKind.i64.wrap ((p.size : Int) - 1) = (p.size : Int) - 1 := IntWalk.i64_in _ (by omega)
  have r2 : IntKind.i64.wrap ((p.size : Int) - 1 - i) = (dp : Int) := by rw [IntWalk.i64_in _ (by omega)]; omega
  have i1 : (dg : Int) < g.size := by omega
  have i2 : (dp : Int) < p.size := by omega
  have i3 : (0 : Int) ≤ dg := by omega
  have i4 : (0 : Int) ≤ dp := by omega
  clear hdg hdp
  go_enter Try.func71, Try.ntmps71
  go_wp2_with fail
  go_quiet (fail)
  go_wp2
  go_ret
  refine ⟨ret_bool ?_, below_drewN (Below.refl _ _) _⟩
  rw [E1.out, E2.out]
  exact u8_beq a b

set_option maxHeartbeats 1000000 in
theorem same1_any (bg bp : Nat) (g p : ByteArray) (M : Int) (w : World) (hg : OneStr w bg g) (hp : OneStr w bp p) (hM : M = ((min g.size p.size : Nat) : Int)) (hgs : g.size ≤ 1099511627776) (hps : p.size ≤ 1099511627776) :
    Calls Try.prog 69 #[.int .i64 M, .func (.func 70) #[] #[.pointer (some ⟨bg, 0, none⟩), .pointer (some ⟨bp, 0, none⟩)]] w fun e w' => e = .returned (.int .i64 (lcp g.data.toList p.data.toList)) ∧ Below w.heap.size w w' := by
  have hgl : g.data.toList.length = g.size := (Lib.size_eq g).symm
  have hpl : p.data.toList.length = p.size := (Lib.size_eq p).symm
  have HGL := Lib.hid hgl; have HPL := Lib.hid hpl; clear hgl hpl
  have HMM := Lib.hid hM
  have hM1 : M ≤ g.size := by omega
  have hM2 : M ≤ p.size := by omega
  have hM0 : 0 ≤ M := by omega
  clear hM
  go_enter Try.func69, Try.ntmps69
  go_wp2_with fail
  go_loopw [5] (fun i wr => ∃ k : Nat, (k : Int) ≤ M ∧ i = .int .i64 k ∧ Hid (∀ j, j < k → g.data.toList[j]? = p.data.toList[j]?) ∧ Below w.heap.size w wr) (fun i _ => (M - intOf i).toNat)
  case atStart => exact ⟨0, hM0, rfl, fun j hj => by omega, Below.refl _ _⟩
  case round =>
    obtain ⟨k, hk, rfl, HE, hb⟩ := hrel
    by_cases hlt : (k : Int) < M
    · obtain ⟨a, ha⟩ := get_some g.data.toList k (by rw [HGL.out]; omega)
      obtain ⟨b, hbb⟩ := get_some p.data.toList k (by rw [HPL.out]; omega)
      have HA := Lib.hid ha; have HB := Lib.hid hbb
      clear ha hbb
      have hz := hb.size
      cases hab : (a == b) with
      | true =>
        have HAB := Lib.hid hab; clear hab
        go_wp2_with (go_at_call 70; refine (look1_any bg bp k g p a b _ (hg.below hb hg.lt) (hp.below hb hp.lt) HA.out HB.out hgs).mono ?_; rw [HAB.out]; rintro e w1 ⟨rfl, hb1⟩)
        go_roundw
        case rel =>
          refine ⟨k + 1, by omega, by go_num, fun j hj => ?_, below_tr hb hb1 hz⟩
          rcases Nat.lt_or_ge j k with h | h
          · exact HE.out j h
          · have : j = k := by omega
            subst this
            rw [HA.out, HB.out, beq_iff_eq.1 HAB.out]
        case measure => simp [intOf]; omega
      | false =>
        have HAB := Lib.hid hab; clear hab
        have HF : Hid (lcp g.data.toList p.data.toList = k) := lcp_of _ _ k (by rw [HGL.out]; omega) (by rw [HPL.out]; omega) HE.out (.inr (.inr ⟨a, b, HA.out, HB.out, by simpa using HAB.out⟩))
        go_wp2_with (go_at_call 70; refine (look1_any bg bp k g p a b _ (hg.below hb hg.lt) (hp.below hb hp.lt) HA.out HB.out hgs).mono ?_; rw [HAB.out]; rintro e w1 ⟨rfl, hb1⟩)
        go_ret
        exact ⟨ret_int (by rw [HF.out]), below_tr hb hb1 hz⟩
    · have HF : Hid (lcp g.data.toList p.data.toList = k) := lcp_of _ _ k (by rw [HGL.out]; omega) (by rw [HPL.out]; omega) HE.out (by
        have := HMM.out
        rw [HGL.out, HPL.out]
        have h2 : k = min g.size p.size := by omega
        rcases Nat.le_total g.size p.size with h | h
        · left; omega
        · right; left; omega)
      go_wp2
      go_ret
      exact ⟨ret_int (by rw [HF.out]), hb⟩

set_option maxHeartbeats 1000000 in
theorem same2_any (bg bp : Nat) (g p : ByteArray) (M : Int) (w : World) (hg : OneStr w bg g) (hp : OneStr w bp p) (hM : M = ((min g.size p.size : Nat) : Int)) (hgs : g.size ≤ 1099511627776) (hps : p.size ≤ 1099511627776) :
    Calls Try.prog 69 #[.int .i64 M, .func (.func 71) #[] #[.pointer (some ⟨bg, 0, none⟩), .pointer (some ⟨bp, 0, none⟩)]] w fun e w' => e = .returned (.int .i64 (lcp g.data.toList.reverse p.data.toList.reverse)) ∧ Below w.heap.size w w' := by
  have hgl : g.data.toList.length = g.size := (Lib.size_eq g).symm
  have hpl : p.data.toList.length = p.size := (Lib.size_eq p).symm
  have HGL := Lib.hid hgl; have HPL := Lib.hid hpl; clear hgl hpl
  have HMM := Lib.hid hM
  have hM1 : M ≤ g.size := by omega
  have hM2 : M ≤ p.size := by omega
  have hM0 : 0 ≤ M := by omega
  clear hM
  go_enter Try.func69, Try.ntmps69
  go_wp2_with fail
  go_loopw [5] (fun i wr => ∃ k : Nat, (k : Int) ≤ M ∧ i = .int .i64 k ∧ Hid (∀ j, j < k → g.data.toList.reverse[j]? = p.data.toList.reverse[j]?) ∧ Below w.heap.size w wr) (fun i _ => (M - intOf i).toNat)
  case atStart => exact ⟨0, hM0, rfl, fun j hj => by omega, Below.refl _ _⟩
  case round =>
    obtain ⟨k, hk, rfl, HE, hb⟩ := hrel
    by_cases hlt : (k : Int) < M
    · obtain ⟨a, ha⟩ := get_some g.data.toList.reverse k (by simp only [List.length_reverse]; rw [HGL.out]; omega)
      obtain ⟨b, hbb⟩ := get_some p.data.toList.reverse k (by simp only [List.length_reverse]; rw [HPL.out]; omega)
      have HA := Lib.hid ha; have HB := Lib.hid hbb
      clear ha hbb
      have hz := hb.size
      cases hab : (a == b) with
      | true =>
        have HAB := Lib.hid hab; clear hab
        go_wp2_with (go_at_call 71; refine (look2_any bg bp k g p a b _ (hg.below hb hg.lt) (hp.below hb hp.lt) (by omega) (by omega) (by have := HA.out; rwa [List.getElem?_reverse (by rw [HGL.out]; omega), HGL.out] at this) (by have := HB.out; rwa [List.getElem?_reverse (by rw [HPL.out]; omega), HPL.out] at this) hgs hps).mono ?_; rw [HAB.out]; rintro e w1 ⟨rfl, hb1⟩)
        go_roundw
        case rel =>
          refine ⟨k + 1, by omega, by go_num, fun j hj => ?_, below_tr hb hb1 hz⟩
          rcases Nat.lt_or_ge j k with h | h
          · exact HE.out j h
          · have : j = k := by omega
            subst this
            rw [HA.out, HB.out, beq_iff_eq.1 HAB.out]
        case measure => simp [intOf]; omega
      | false =>
        have HAB := Lib.hid hab; clear hab
        have HF : Hid (lcp g.data.toList.reverse p.data.toList.reverse = k) := lcp_of _ _ k (by simp only [List.length_reverse]; rw [HGL.out]; omega) (by simp only [List.length_reverse]; rw [HPL.out]; omega) HE.out (.inr (.inr ⟨a, b, HA.out, HB.out, by simpa using HAB.out⟩))
        go_wp2_with (go_at_call 71; refine (look2_any bg bp k g p a b _ (hg.below hb hg.lt) (hp.below hb hp.lt) (by omega) (by omega) (by have := HA.out; rwa [List.getElem?_reverse (by rw [HGL.out]; omega), HGL.out] at this) (by have := HB.out; rwa [List.getElem?_reverse (by rw [HPL.out]; omega), HPL.out] at this) hgs hps).mono ?_; rw [HAB.out]; rintro e w1 ⟨rfl, hb1⟩)
        go_ret
        exact ⟨ret_int (by rw [HF.out]), below_tr hb hb1 hz⟩
    · have HF : Hid (lcp g.data.toList.reverse p.data.toList.reverse = k) := lcp_of _ _ k (by simp only [List.length_reverse]; rw [HGL.out]; omega) (by simp only [List.length_reverse]; rw [HPL.out]; omega) HE.out (by
        simp only [List.length_reverse]
        have := HMM.out
        rw [HGL.out, HPL.out]
        have h2 : k = min g.size p.size := by omega
        rcases Nat.le_total g.size p.size with h | h
        · left; omega
        · right; left; omega)
      go_wp2
      go_ret
      exact ⟨ret_int (by rw [HF.out]), hb⟩
end Go.Proofs.Ytpifobaejmfppaa
