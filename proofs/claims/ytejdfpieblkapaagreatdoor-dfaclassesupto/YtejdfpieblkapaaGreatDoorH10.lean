/- newMaker's function, and what may stand behind state 0. -/
import Derived.Test.YtejdfpieblkapaaGreatDoorH6
import Derived.Test.YtejdfpieblkapaaGreatDoorH9
import Derived.Test.YtejdfpieblkapaaGreatDoorH2
namespace Go.Proofs.YtejdfpieblkapaaGreatDoor
open Go.RowKit Go.Shelf

set_option maxRecDepth 100000
set_option maxHeartbeats 1000000
theorem has_text (w : World) (ga gp nw b : Nat) (ws : List Nat) (h : w.cell? ⟨ga, b, none⟩ = some (bsV gp nw)) (hw : BsAt w gp ws) (hl : ws.length = nw) (hn : nw ≤ 20000) (hb : b < 256) :
  Calls Tryz.prog 93 #[.int .i64 b, ptr ga] w fun e w' => e = .returned (tx (txt ws)) ∧ Below w.heap.size w w' := by
 have HT := Lib.hid (bs_text w gp nw ws hw hl.symm hn)
 have h1 : (b : Int) < 256 := by omega
 have h0 : (0 : Int) ≤ b := by omega
 clear hw hl
 go_enter Tryz.func93, Tryz.ntmps93
 go_wp2_with fail
 refine HT.out.mono ?_
 rintro e w1 ⟨rfl, hb1⟩
 have HB := Lib.hid hb1
 clear hb1 HT
 go_wp2_with fail
 go_ret
 exact ⟨rfl, HB.out⟩
theorem ahead_zero (w : World) (mk gf nw : Nat) (h : w.cell? ⟨mk, 0, none⟩ = some (bsV gf nw)) :
  Calls Tryz.prog 95 #[ptr mk, .int .i64 (0 : Nat)] w fun e w' => e = .returned (bsV gf nw) ∧ Below w.heap.size w w' := by
 have hb := (Below.refl _ w).alloc (Nat.le_refl _) (.cells #[ptr mk] 104)
 have hc := (Boxed.new w 104 (ptr mk)).cell
 have h' := cell_below hb h
 have HB := Lib.hid hb
 go_enter Tryz.func95, Tryz.ntmps95
 go_upto_region 1 with fail
 generalize w.alloc (.cells #[ptr mk] 104) = w0 at hc h' HB ⊢
 clear hb
 go_wp2
 go_ret
 exact ⟨rfl, HB.out⟩
end Go.Proofs.YtejdfpieblkapaaGreatDoor
