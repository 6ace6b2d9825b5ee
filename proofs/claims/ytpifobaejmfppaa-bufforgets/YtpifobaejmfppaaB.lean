/- What edits.taken, growth, Move and Cost, and the document's Great answer. -/
import Derived.Test.YtpifobaejmfppaaMem
import Derived.Test.YtpifobaejmfppaaShelf
import Derived.WalkSpells
import Derived.WalkLawsBesides
import Derived.BigQuiet
import Derived.Deep.RegionWith
namespace Go.Proofs.Ytpifobaejmfppaa
open Go.RowKit

set_option maxHeartbeats 400000 in
theorem taken_any (f t : Int) (s : ByteArray) (w : World) (h1 : 0 ≤ f) (h2 : f ≤ t) (h3 : t ≤ 1099511627776) :
    Calls Try.prog 54 #[.agg #[.int .i64 f, .int .i64 t, .string s]] w fun e w' => e = .returned (.int .i64 (t - f)) ∧ Below w.heap.size w w' := by
  go_enter Try.func54, Try.ntmps54
  go_wp2
  go_ret
  exact ⟨ret_int (by omega), (Below.refl _ _).alloc (Nat.le_refl _) _⟩

set_option maxHeartbeats 400000 in
theorem growth_any (f t : Int) (s : ByteArray) (w : World) (h1 : 0 ≤ f) (h2 : f ≤ t) (h3 : t ≤ 1099511627776) (h4 : s.size ≤ 1099511627776) :
    Calls Try.prog 45 #[.agg #[.int .i64 f, .int .i64 t, .string s]] w fun e w' => e = .returned (.int .i64 ((s.size : Int) - (t - f))) ∧ Below w.heap.size w w' := by
  go_enter Try.func45, Try.ntmps45
  go_wp2
  go_region_with (go_at_call 54; refine (taken_any _ _ _ _ h1 h2 h3).mono ?_; rintro e w1 ⟨rfl, hb⟩; have d2 : w1.cell? ⟨w.heap.size, 2, none⟩ = some (.string s) := (hb.cell (p := ⟨w.heap.size, 2, none⟩) (by simp)).trans (by simp))
  all_goals (try go_wp2)
  all_goals go_ret
  all_goals refine ⟨?_, ?_⟩
  any_goals (show Ending.returned (.int .i64 (IntKind.i64.wrap ((s.size : Int) - (t - f)))) = _; rw [IntWalk.i64_in _ (by omega)])
  all_goals exact below_tr ((Below.refl _ _).alloc (Nat.le_refl _) _).drew hb (by simp)

set_option maxHeartbeats 400000 in
theorem great_any (A : Option Addr) (len cap : Nat) (l : List Ed) (w : World) (hlen : l.length = len) (hl : len ≤ cap) (hcap : cap ≤ 9223372036854775807) (hE : EdsAt w w.heap.size A l) :
    Calls Try.prog 13 #[.slice A len cap] w fun e w' => e = .returned (.bool (greatB l)) ∧ w = w' := by
  have HL := Lib.hid hlen; clear hlen
  go_enter Try.func13, Try.ntmps13
  go_wp2_with fail
  go_loop [3] (fun i => ∃ (k : Nat), k ≤ len ∧ i = .int .i64 k ∧ Hid ((l.take k).any (fun e => decide (100 < e.s.size)) = false)) (fun i => len - (intOf i).toNat)
  case atStart => exact ⟨0, Nat.zero_le _, rfl, rfl⟩
  case round =>
    obtain ⟨k, hk, rfl, HR⟩ := hrel
    by_cases hlt : k < len
    · obtain ⟨e, he⟩ := get_some l k (by rw [HL.out]; exact hlt)
      obtain ⟨ad, rfl, hab, c0, c1, c2⟩ := hE k e he
      have HN := Lib.hid he; clear he
      by_cases q : 100 < e.s.size
      · go_wp2
        go_ret
        refine ⟨ret_bool ?_, rfl⟩
        unfold greatB
        have : l.any (fun e => decide (100 < e.s.size)) = true := by
          rw [List.any_eq_true]; exact ⟨e, List.mem_of_getElem? HN.out, by simpa using q⟩
        rw [this, Bool.true_or]
      · go_wp2
        go_round
        case rel =>
          refine ⟨k + 1, by omega, by go_num, ?_⟩
          show _ = _
          rw [take_snoc_of HN.out, List.any_append, HR.out]
          simp; omega
        case measure => simp [intOf]; omega
    · go_wp2
      go_ret
      refine ⟨ret_bool ?_, rfl⟩
      unfold greatB
      have h := HR.out
      rw [List.take_of_length_le (by rw [HL.out]; omega)] at h
      rw [h, Bool.false_or, HL.out]
      rw [decide_eq_decide]; omega
end Go.Proofs.Ytpifobaejmfppaa
