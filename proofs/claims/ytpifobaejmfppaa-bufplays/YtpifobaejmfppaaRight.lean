/- What edits.Right answers, of any list of edits. -/
import Derived.Test.YtpifobaejmfppaaMem
import Derived.Test.YtpifobaejmfppaaShelf
import Derived.WalkSpells
import Derived.WalkLawsBesides
import Derived.BigQuiet
namespace Go.Proofs.Ytpifobaejmfppaa
open Go.RowKit
set_option maxHeartbeats 400000 in
theorem right_any (n : Int) (A : Option Addr) (len cap : Nat) (l : List Ed) (w : World) (hlen : l.length = len) (hl : len ≤ cap) (hcap : cap ≤ 9223372036854775807) (hE : EdsAt w w.heap.size A l) :
    Calls Try.prog 18 #[.int .i64 n, .slice A len cap] w fun e w' => e = .returned (.bool (rightB 0 n l)) ∧ Below w.heap.size w w' := by
  have HL := Lib.hid hlen; clear hlen
  go_enter Try.func18, Try.ntmps18
  go_wp2_with fail
  go_loopw [5, 10] (fun a i wr => ∃ (k : Nat) (x : Int), k ≤ len ∧ i = .int .i64 k ∧ a = .int .i64 x ∧ Hid (rightB x n (l.drop k) = rightB 0 n l) ∧ Below w.heap.size w wr) (fun _ i _ => len - (intOf i).toNat)
  case atStart => exact ⟨0, 0, Nat.zero_le _, rfl, rfl, rfl, Below.refl _ _⟩
  case round =>
    obtain ⟨k, x, hk, rfl, rfl, HR, hb⟩ := hrel
    by_cases hlt : k < len
    · obtain ⟨e, he⟩ := get_some l k (by rw [HL.out]; exact hlt)
      have HD := Lib.hid (drop_cons_of he)
      obtain ⟨ad, rfl, hab, c0, c1, c2⟩ := (hE.below hb) k e he
      have HN := Lib.hid he; clear he
      have hz := hb.size
      by_cases hok : x ≤ e.f ∧ e.f ≤ e.t ∧ e.t ≤ n
      · obtain ⟨q1, q2, q3⟩ := hok
        go_wp2
        go_roundw
        case rel => exact ⟨k + 1, e.t, by omega, by go_num, rfl, by show _ = _; rw [← HR.out, HD.out, rightB_cons, (Ed.okB_iff _ _ _).2 ⟨q1, q2, q3⟩, Bool.true_and], hb.alloc hz _⟩
        case measure => simp [intOf]; omega
      · have hf : rightB 0 n l = false := by
          rw [← HR.out, HD.out, rightB_cons]
          have : e.okB x n = false := by rw [Bool.eq_false_iff, ne_eq, Ed.okB_iff]; exact hok
          rw [this, Bool.false_and]
        have HF := Lib.hid hf; clear hf
        rcases (show e.f < x ∨ (x ≤ e.f ∧ e.t < e.f) ∨ (x ≤ e.f ∧ e.f ≤ e.t ∧ n < e.t) by omega) with q | ⟨q1, q2⟩ | ⟨q1, q2, q3⟩
        all_goals
          clear hok
          go_wp2
          go_ret
          exact ⟨ret_bool HF.out.symm, hb.alloc hz _⟩
    · go_wp2
      go_ret
      refine ⟨ret_bool ?_, hb⟩
      rw [← HR.out, List.drop_of_length_le (by rw [HL.out]; omega)]; rfl
end Go.Proofs.Ytpifobaejmfppaa
