/- For every list of texts, together of at most 1048576 values and letters, and every two bytes the law DfaClasses (P7.2) returns true, and its arguments read afterwards as they read before; one table of Go's library is as the program's text lays it (the card ties it). No other condition. -/
import Derived.Test.YtejdfpieblkapaaGreatDoorG45
import Derived.Test.YtejdfpieblkapaaGreatDoorD2
import Derived.Test.YtejdfpieblkapaaGreatDoorRows
import Derived.Test.YtejdfpieblkapaaGreatDoorTie
import Derived.Test.YtejdfpieblkapaaGreatDoorCards
namespace Go.Proofs.YtejdfpieblkapaaGreatDoor
open Go.ChangeShapes Go.WideShapes Go.ChangeAt Go.RowKit
open Go.ChangeMaps (open_string shut_string)

set_option maxRecDepth 100000 in
theorem dfaClassesUpto_lifted (os : Os) (started : os.Started) (H : Type) (enc : TypeId × Value → H) (F : Stop.Interp) :
  ReturnsInHanded {} Tryz.checked os 8 .any ((Rows.OpenSpec.upto Rows.dfaClassesSpec).preRow enc Tryz.prog Tryz.f8 Rows.dfaClassesUptoRow.domain false Rows.dfaClassesUptoRow.laid) (((Rows.OpenSpec.upto Rows.dfaClassesSpec).at F).post enc Tryz.prog Tryz.f8 false true false false) := by
 refine returnsInHanded_of_row (C := Tryz.checked) (s := Rows.OpenSpec.upto Rows.dfaClassesSpec) Tryz.own started (by kernel_rfl) Tryz.func8
  (witness_row_at (enc := enc) (C := Tryz.checked) false (World.laidAll Tryz.prog os Rows.dfaClassesUptoRow.laid) #[.slice none 0 0, .int .u8 0, .int .u8 0] (World.laidAll_os _ _ _) (by kernel_rfl) (by kernel_rfl) (by kernel_rfl)
   (OpenSpec.preRow_of_cond 8 (x := ([.nil, .lit (.int .u8 0), .lit (.int .u8 0)], [], [])) (by kernel_rfl) (by kernel_rfl) (fun k hk => by cases hk; kernel_rfl) (by kernel_rfl) (by rw [MakeChecks.laidMetH_plain _ _ _ (by kernel_rfl)]; exact laidMet_laidAll _ (by kernel_rfl) (by kernel_rfl)))) ?_
 intro W base args ds gs before hval0 hW _ hcond _ hL _ _
 have hbd : Rows.uptoBulkAll (ds ++ gs) ≤ 1048576 := of_decide_eq_true (hcond _ rfl)
 clear hcond
 have hval : ∀ (j : Nat) t v, Tryz.f8.params[j]? = some t → args[j]? = some v → Value.okWide Tryz.prog W .any base t v := hval0
 have hW' := hW
 obtain ⟨p, q, hA0, hV, rfl, hfz, hnd⟩ := hW
 have hA : DataW.TrodAll enc Tryz.prog W 0 (fun _ => true) true Tryz.f8.params.toList args.toList ds p := hA0
 rw [Tryz.params8] at hA hval
 obtain ⟨v0, v1, v2, d0, d1, d2, p0, p1, p2, rfl, rfl, rfl, h0, h1, h2⟩ := trodAll_three hA
 obtain ⟨rfl, rfl⟩ := trodVars_none hV
 obtain ⟨x1, rfl, rfl, rfl, wx1⟩ := open_int Tryz.underlying5 (hval 1 5 v1 rfl rfl) h1
 obtain ⟨x2, rfl, rfl, rfl, wx2⟩ := open_int Tryz.underlying5 (hval 2 5 v2 rfl rfl) h2
 have h0c := h0
 obtain ⟨A0, n0, c0, ss0, rfl, hl0, hc0, hm0, hS0, hn0, hs0⟩ := open_textsB (hval 0 22 v0 rfl rfl) h0c
 obtain ⟨b1, hb1⟩ := byte_of wx1
 subst hb1
 obtain ⟨b2, hb2⟩ := byte_of wx2
 subst hb2
 clear hA0 hval0
 simp only [List.append_nil] at hW'
 simp only [List.append_nil, Rows.uptoBulkAll] at hbd
 have hlt : ∀ x ∈ p0, x.block < W.heap.size := fun x hx => by simpa using hW'.lt x (by simpa using hx)
 refine (law_classes7 W A0 n0 c0 ss0 b1 b2 (tab_of_laid hL) hl0 hc0 hS0 (by omega) (fun s hs => Nat.le_trans (hs0 s hs) (by omega))).mono fun e W' ⟨he, hb⟩ => ?_
 subst he
 exact ⟨_, rfl, _, _, _, [], _, [], hW', trodAll_mk1 (shut_bool Tryz.underlying4 true), trodAll_mk3 (Below.trod Tryz.laidOut (by kernel_rfl) (of_decide_eq_true (by kernel_rfl)) h0 hb (fun x hx => hlt x (by simp [hx]))) (shut_int Tryz.underlying5 wx1) (shut_int Tryz.underlying5 wx2), rfl, hb.frame _, fun h => by cases h⟩

theorem dfaClassesUpto_row : Rows.DfaClassesUptoSaid :=
 OpenClaim.holds_of_cond 8 Tryz.f8 rfl rfl rfl rfl rfl rfl rfl ⟨rfl, rfl, rfl, rfl, rfl⟩ rfl rfl rfl rfl rfl (by kernel_rfl) Tryz.func8 (by kernel_rfl)
  (of_decide_eq_true (by kernel_rfl)) (by unfold Func.isWrapper; first | (rw [if_pos (by decide +kernel)]; kernel_rfl) | (rw [if_neg (by decide +kernel)]; exact ⟨rfl, rfl⟩))
  (fun os started H enc _ F => by rw [OpenClaim.pre_eq_preRow]; exact dfaClassesUpto_lifted os started H enc F)

theorem dfaClassesUpto_holds : Rows.DfaClassesUptoCardSaid :=
 Claim7.holds_tied_plain_at .later [] [.data] true (true, "9f12f1a78da01d0306cc173cb16b64c46fa233fe268123de87bc0325c2585f8f") false
  dfaClassesUpto_row (fun _ h => by cases h) (by kernel_rfl) (fun _ h => by cases h) dfaClassesUpto_row_tie rfl ⟨rfl, rfl⟩ (by kernel_rfl) rfl
  (fun f fn hf hfn => by
   obtain rfl : f = 8 := Option.some.inj ((show Tryz.prog.funcNamed "frisket/frisketlaw07.DfaClasses" = some 8 by kernel_rfl).symm.trans hf) |>.symm
   obtain rfl : fn = Tryz.f8 := (Option.some.inj (Tryz.func8.symm.trans hfn)).symm
   exact ⟨by kernel_rfl, fun j t ht => by
    rw [Tryz.params8] at ht
    rcases j with _ | _ | _ | j
    ·obtain rfl : t = 22 := by simpa using ht.symm
     exact (show Tryz.prog.wantsStandIn 22 = false by kernel_rfl)
    ·obtain rfl : t = 5 := by simpa using ht.symm
     exact (show Tryz.prog.wantsStandIn 5 = false by kernel_rfl)
    ·obtain rfl : t = 5 := by simpa using ht.symm
     exact (show Tryz.prog.wantsStandIn 5 = false by kernel_rfl)
    ·simp at ht⟩)
  (by kernel_rfl)
end Go.Proofs.YtejdfpieblkapaaGreatDoor
