/- The law LinesUpdates, walked. -/
import Derived.Test.YtifehdoindbkmaaLi
namespace Go.Proofs.Ytifehdoindbkmaa
open Go.RowKit Go.Shelf

set_option maxRecDepth 100000 in
set_option maxHeartbeats 2000000 in
theorem law_updates_long (s v : ByteArray) (p q : Int) (w : World) (hs0 : s.size ≤ 9223372036854775807) (hv0 : v.size ≤ 9223372036854775807) (hs : 2000 < s.size ∨ 300 < v.size) : Calls Try.prog 4 #[.string s, .int .i64 p, .int .i64 q, .string v] w (Fine w) := by
  by_cases h : 2000 < s.size
  · go_enter Try.func4, Try.ntmps4
    go_wp2_with fail
    refine (awake_any _).mono ?_
    rintro e w1 ⟨rfl, hb⟩
    go_wp2
    go_ret
    exact ⟨rfl, hb⟩
  · have h2 : 300 < v.size := by omega
    go_enter Try.func4, Try.ntmps4
    go_wp2_with fail
    refine (awake_any _).mono ?_
    rintro e w1 ⟨rfl, hb⟩
    go_wp2
    go_ret
    exact ⟨rfl, hb⟩

set_option maxRecDepth 100000 in
set_option maxHeartbeats 2000000 in
theorem law_updates_out (s v : ByteArray) (p q : Int) (w : World) (hs : s.size ≤ 2000) (hv : v.size ≤ 300) (hp : p < 0 ∨ q < p ∨ (s.size : Int) < q) : Calls Try.prog 4 #[.string s, .int .i64 p, .int .i64 q, .string v] w (Fine w) := by
  have HN := new_any s w (by omega)
  have hor : (decide (p < 0) || decide (q < p) || decide ((s.size : Int) < q)) = true := by simp; omega
  go_enter Try.func4, Try.ntmps4
  go_wp2_with fail
  refine HN.mono ?_
  rintro e w1 ⟨X, A, c, rfl, hX, hb⟩
  clear HN
  have HP := update_no w.heap.size X c s v A p q w1 hX hp (by omega)
  go_wp2_with fail
  refine HP.mono ?_
  rintro e w2 ⟨rfl, rfl⟩
  clear HP hX
  by_cases h1 : p < 0
  · go_wp2_with fail
    refine (awake_any _).mono ?_
    rintro e w3 ⟨rfl, hb4⟩
    go_wp2
    go_ret
    exact ⟨rfl, hb.trans (hb4.mono hb.size)⟩
  by_cases h2 : q < p
  · go_wp2_with fail
    refine (awake_any _).mono ?_
    rintro e w3 ⟨rfl, hb4⟩
    go_wp2
    go_ret
    exact ⟨rfl, hb.trans (hb4.mono hb.size)⟩
  have h3 : (s.size : Int) < q := by omega
  clear hp
  go_wp2_with fail
  refine (awake_any _).mono ?_
  rintro e w3 ⟨rfl, hb4⟩
  go_wp2
  go_ret
  exact ⟨rfl, hb.trans (hb4.mono hb.size)⟩

end Go.Proofs.Ytifehdoindbkmaa
