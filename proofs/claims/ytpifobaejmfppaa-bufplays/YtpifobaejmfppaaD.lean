/- What the document's Right and Apply (frisketref01) answer. -/
import Derived.Test.YtpifobaejmfppaaMem
import Derived.Test.YtpifobaejmfppaaShelf
import Derived.WalkSpells
import Derived.WalkLawsBesides
import Derived.BigQuiet
namespace Go.Proofs.Ytpifobaejmfppaa
open Go.RowKit

set_option maxHeartbeats 4000000 in
theorem rright_any (n : Int) (A : Option Addr) (len cap : Nat) (l : List Ed) (w : World) (hlen : l.length = len) (hl : len ≤ cap) (hcap : cap ≤ 9223372036854775807) (hE : EdsAt w w.heap.size A l) :
    Calls Try.prog 17 #[.int .i64 n, .slice A len cap] w fun e w' => e = .returned (.bool (rightB 0 n l)) ∧ Below w.heap.size w w' := by
  have HL := Lib.hid hlen; clear hlen
  go_enter Try.func17, Try.ntmps17
  go_wp2_with fail
  go_loopw [5] (fun i wr => ∃ (k : Nat) (x : Int), k ≤ len ∧ i = .int .i64 k ∧ 0 ≤ x ∧ Hid (k = 0 → x = 0) ∧ Hid (∀ j e', k = j + 1 → l[j]? = some e' → x = e'.t) ∧ Hid (rightB x n (l.drop k) = rightB 0 n l) ∧ Below w.heap.size w wr) (fun i _ => len - (intOf i).toNat)
  case atStart => exact ⟨0, 0, Nat.zero_le _, rfl, Int.le_refl _, fun _ => rfl, fun j e h => by omega, rfl, Below.refl _ _⟩
  case round =>
    obtain ⟨k, x, hk, rfl, hx, H0, HP, HR, hb⟩ := hrel
    by_cases hlt : k < len
    · obtain ⟨e, he⟩ := get_some l k (by rw [HL.out]; exact hlt)
      have HD := Lib.hid (drop_cons_of he)
      obtain ⟨ad, hA, hab, c0, c1, c2⟩ := (hE.below hb) k e he
      have HN := Lib.hid he; clear he
      have hz := hb.size
      have hki : (k : Int) < len := by omega
      have hk0 : (0 : Int) ≤ k := by omega
      subst hA
      have HF : Hid (¬ (x ≤ e.f ∧ e.f ≤ e.t ∧ e.t ≤ n) → rightB 0 n l = false) := fun hok => by
        rw [← HR.out, HD.out, rightB_cons]
        have : e.okB x n = false := by rw [Bool.eq_false_iff, ne_eq, Ed.okB_iff]; exact hok
        rw [this, Bool.false_and]
      have HT : Hid ((x ≤ e.f ∧ e.f ≤ e.t ∧ e.t ≤ n) → rightB e.t n (l.drop (k + 1)) = rightB 0 n l) := fun hok => by
        rw [← HR.out, HD.out, rightB_cons, (Ed.okB_iff _ _ _).2 hok, Bool.true_and]
      have HQ : Hid (∀ j e', k + 1 = j + 1 → l[j]? = some e' → e.t = e'.t) := fun j e' h1 h2 => by
        have h3 : j = k := by omega
        rw [h3, HN.out] at h2
        rw [Option.some.inj h2]
      rcases Nat.eq_zero_or_pos k with hk1 | hk1
      · have hx0 := H0.out hk1
        subst hx0
        have d4 : decide ((0 : Int) < (k : Int)) = false := by simp; omega
        have d4' : decide (0 < k) = false := by simp; omega
        clear hk1 H0 HP HR HD HN
        by_cases hok : 0 ≤ e.f ∧ e.f ≤ e.t ∧ e.t ≤ n
        · obtain ⟨q1, q2, q3⟩ := hok
          have d1 : decide (e.f < 0) = false := by simp; omega
          have d2 : decide (e.t < e.f) = false := by simp; omega
          have d3 : decide (n < e.t) = false := by simp; omega
          go_wp2_with fail
          go_quiet (fail)
          go_wp2
          go_roundw
          case rel => exact ⟨k + 1, e.t, by omega, by go_num, by omega, fun h => absurd h (by omega), HQ, HT.out ⟨q1, q2, q3⟩, below_drewN hb _⟩
          case measure => simp [intOf]; omega
        · have HF' := Lib.hid (HF.out hok)
          rcases (show e.f < 0 ∨ (0 ≤ e.f ∧ e.t < e.f) ∨ (0 ≤ e.f ∧ e.f ≤ e.t ∧ n < e.t) by omega) with q | ⟨q1, q2⟩ | ⟨q1, q2, q3⟩
          · have d1 : decide (e.f < 0) = true := by simp; omega
            clear hok
            go_wp2_with fail
            go_quiet (fail)
            go_wp2
            go_ret
            exact ⟨ret_bool HF'.out.symm, below_drewN hb _⟩
          · have d1 : decide (e.f < 0) = false := by simp; omega
            have d2 : decide (e.t < e.f) = true := by simp; omega
            clear hok
            go_wp2_with fail
            go_quiet (fail)
            go_wp2
            go_ret
            exact ⟨ret_bool HF'.out.symm, below_drewN hb _⟩
          · have d1 : decide (e.f < 0) = false := by simp; omega
            have d2 : decide (e.t < e.f) = false := by simp; omega
            have d3 : decide (n < e.t) = true := by simp; omega
            clear hok
            go_wp2_with fail
            go_quiet (fail)
            go_wp2
            go_ret
            exact ⟨ret_bool HF'.out.symm, below_drewN hb _⟩
      · obtain ⟨e', he'⟩ := get_some l (k - 1) (by rw [HL.out]; omega)
        obtain ⟨ad', hA', _, b0, b1, b2⟩ := (hE.below hb) (k - 1) e' he'
        obtain rfl : ad = ad' := Option.some.inj hA'
        clear hA'
        have hx1 := HP.out (k - 1) e' (by omega) he'
        subst hx1
        have d4 : decide ((0 : Int) < (k : Int)) = true := by simp; omega
        have d4' : decide (0 < k) = true := by simp; omega
        have p1 : IntKind.i64.wrap ((k : Int) - 1) = (k : Int) - 1 := IntWalk.i64_in _ (by omega)
        have p2 : ((k : Int) - 1).toNat = k - 1 := by omega
        have p3 : (0 : Int) ≤ (k : Int) - 1 := by omega
        have p3' : (1 : Int) ≤ (k : Int) := by omega
        have p4 : (k : Int) - 1 < (len : Int) := by omega
        have P1 := Lib.hid p1
        have P2 := Lib.hid p2
        clear H0 HP HR HD HN he'
        by_cases hok : e'.t ≤ e.f ∧ e.f ≤ e.t ∧ e.t ≤ n
        · obtain ⟨q1, q2, q3⟩ := hok
          have d1 : decide (e.f < 0) = false := by simp; omega
          have d2 : decide (e.t < e.f) = false := by simp; omega
          have d3 : decide (n < e.t) = false := by simp; omega
          have d5 : decide (e.f < e'.t) = false := by simp; omega
          go_wp2_with fail
          go_quiet (fail)
          go_wp2
          clear p1 p2
          go_roundw
          case rel => exact ⟨k + 1, e.t, by omega, by go_num, by omega, fun h => absurd h (by omega), HQ, HT.out ⟨q1, q2, q3⟩, below_drewN hb _⟩
          case measure => simp [intOf]; omega
        · have HF' := Lib.hid (HF.out hok)
          rcases (show e.f < 0 ∨ (0 ≤ e.f ∧ e.t < e.f) ∨ (0 ≤ e.f ∧ e.f ≤ e.t ∧ n < e.t) ∨ (0 ≤ e.f ∧ e.f ≤ e.t ∧ e.t ≤ n ∧ e.f < e'.t) by omega) with q | ⟨q1, q2⟩ | ⟨q1, q2, q3⟩ | ⟨q1, q2, q3, q4⟩
          · have d1 : decide (e.f < 0) = true := by simp; omega
            clear hok
            go_wp2_with fail
            go_quiet (fail)
            go_wp2
            go_ret
            exact ⟨ret_bool HF'.out.symm, below_drewN hb _⟩
          · have d1 : decide (e.f < 0) = false := by simp; omega
            have d2 : decide (e.t < e.f) = true := by simp; omega
            clear hok
            go_wp2_with fail
            go_quiet (fail)
            go_wp2
            go_ret
            exact ⟨ret_bool HF'.out.symm, below_drewN hb _⟩
          · have d1 : decide (e.f < 0) = false := by simp; omega
            have d2 : decide (e.t < e.f) = false := by simp; omega
            have d3 : decide (n < e.t) = true := by simp; omega
            clear hok
            go_wp2_with fail
            go_quiet (fail)
            go_wp2
            go_ret
            exact ⟨ret_bool HF'.out.symm, below_drewN hb _⟩
          · have d1 : decide (e.f < 0) = false := by simp; omega
            have d2 : decide (e.t < e.f) = false := by simp; omega
            have d3 : decide (n < e.t) = false := by simp; omega
            have d5 : decide (e.f < e'.t) = true := by simp; omega
            clear hok
            go_wp2_with fail
            go_quiet (fail)
            go_wp2
            go_ret
            exact ⟨ret_bool HF'.out.symm, below_drewN hb _⟩
    · go_wp2
      go_ret
      refine ⟨ret_bool ?_, hb⟩
      rw [← HR.out, List.drop_of_length_le (by rw [HL.out]; omega)]; rfl
end Go.Proofs.Ytpifobaejmfppaa
