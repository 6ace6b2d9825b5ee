/- The law of states, as its card states it for arguments that a machine can hold. -/
import Derived.Test.YtejdfpieblkapaaGreatDoorH31
import Derived.Test.YtejdfpieblkapaaGreatDoorD0
import Derived.Test.YtejdfpieblkapaaGreatDoorRows
import Derived.Test.YtejdfpieblkapaaGreatDoorTie
import Derived.Test.YtejdfpieblkapaaGreatDoorCards
namespace Go.Proofs.YtejdfpieblkapaaGreatDoor
open Go.ChangeShapes Go.WideShapes Go.ChangeAt Go.RowKit
open Go.ChangeMaps (open_string shut_string)

set_option maxRecDepth 100000 in
theorem dfaStatesUpto_lifted (os : Os) (started : os.Started) (H : Type) (enc : TypeId × Value → H) (F : Stop.Interp) :
  ReturnsInHanded {} Tryz.checked os 7 .any ((Rows.OpenSpec.upto Rows.dfaStatesSpec).preRow enc Tryz.prog Tryz.f7 Rows.dfaStatesUptoRow.domain false Rows.dfaStatesUptoRow.laid) (((Rows.OpenSpec.upto Rows.dfaStatesSpec).at F).post enc Tryz.prog Tryz.f7 false true false false) := by
 refine returnsInHanded_of_row (C := Tryz.checked) (s := Rows.OpenSpec.upto Rows.dfaStatesSpec) Tryz.own started (by kernel_rfl) Tryz.func7
  (witness_row_at (enc := enc) (C := Tryz.checked) false (World.laidAll Tryz.prog os Rows.dfaStatesUptoRow.laid) #[.slice none 0 0, .int .u8 0] (World.laidAll_os _ _ _) (by kernel_rfl) (by kernel_rfl) (by kernel_rfl)
   (OpenSpec.preRow_of_cond 8 (x := ([.nil, .lit (.int .u8 0)], [], [])) (by kernel_rfl) (by kernel_rfl) (fun k hk => by cases hk; kernel_rfl) (by kernel_rfl) (by rw [MakeChecks.laidMetH_plain _ _ _ (by kernel_rfl)]; exact laidMet_laidAll _ (by kernel_rfl) (by kernel_rfl)))) ?_
 intro W base args ds gs before hval0 hW _ hcond _ hL _ _
 have hbd : Rows.uptoBulkAll (ds ++ gs) ≤ 1048576 := of_decide_eq_true (hcond _ rfl)
 clear hcond
 have hval : ∀ (j : Nat) t v, Tryz.f7.params[j]? = some t → args[j]? = some v → Value.okWide Tryz.prog W .any base t v := hval0
 have hW' := hW
 obtain ⟨p, q, hA0, hV, rfl, hfz, hnd⟩ := hW
 have hA : DataW.TrodAll enc Tryz.prog W 0 (fun _ => true) true Tryz.f7.params.toList args.toList ds p := hA0
 rw [Tryz.params7] at hA hval
 obtain ⟨v0, v1, d0, d1, p0, p1, rfl, rfl, rfl, h0, h1⟩ := trodAll_two hA
 obtain ⟨rfl, rfl⟩ := trodVars_none hV
 obtain ⟨x1, rfl, rfl, rfl, wx1⟩ := open_int Tryz.underlying5 (hval 1 5 v1 rfl rfl) h1
 have h0c := h0
 obtain ⟨A0, n0, c0, ss0, rfl, hl0, hc0, hm0, hS0, hn0, hs0⟩ := open_textsB (hval 0 22 v0 rfl rfl) h0c
 obtain ⟨b1, hb1⟩ := byte_of wx1
 subst hb1
 clear hA0 hval0
 simp only [List.append_nil] at hW'
 simp only [List.append_nil, Rows.uptoBulkAll] at hbd
 have hlt : ∀ x ∈ p0, x.block < W.heap.size := fun x hx => by simpa using hW'.lt x (by simpa using hx)
 refine (law_states7 W A0 n0 c0 ss0 b1 (tab_of_laid hL) hl0 hc0 hS0 (by omega) (fun s hs => Nat.le_trans (hs0 s hs) (by omega))).mono fun e W' ⟨he, hb⟩ => ?_
 subst he
 exact ⟨_, rfl, _, _, _, [], _, [], hW', trodAll_mk1 (shut_bool Tryz.underlying4 true), trodAll_mk2 (Below.trod Tryz.laidOut (by kernel_rfl) (of_decide_eq_true (by kernel_rfl)) h0 hb (fun x hx => hlt x (by simp [hx]))) (shut_int Tryz.underlying5 wx1), rfl, hb.frame _, fun h => by cases h⟩

theorem dfaStatesUpto_row : Rows.DfaStatesUptoSaid :=
 OpenClaim.holds_of_cond 7 Tryz.f7 rfl rfl rfl rfl rfl rfl rfl ⟨rfl, rfl, rfl, rfl, rfl⟩ rfl rfl rfl rfl rfl (by kernel_rfl) Tryz.func7 (by kernel_rfl)
  (of_decide_eq_true (by kernel_rfl)) (by unfold Func.isWrapper; first | (rw [if_pos (by decide +kernel)]; kernel_rfl) | (rw [if_neg (by decide +kernel)]; exact ⟨rfl, rfl⟩))
  (fun os started H enc _ F => by rw [OpenClaim.pre_eq_preRow]; exact dfaStatesUpto_lifted os started H enc F)

theorem dfaStatesUpto_holds : Rows.DfaStatesUptoCardSaid :=
 Claim7.holds_tied_plain_at .later [] [.data] true (true, "9f12f1a78da01d0306cc173cb16b64c46fa233fe268123de87bc0325c2585f8f") false
  dfaStatesUpto_row (fun _ h => by cases h) (by kernel_rfl) (fun _ h => by cases h) dfaStatesUpto_row_tie rfl ⟨rfl, rfl⟩ (by kernel_rfl) rfl
  (fun f fn hf hfn => by
   obtain rfl : f = 7 := Option.some.inj ((show Tryz.prog.funcNamed "frisket/frisketlaw07.DfaStates" = some 7 by kernel_rfl).symm.trans hf) |>.symm
   obtain rfl : fn = Tryz.f7 := (Option.some.inj (Tryz.func7.symm.trans hfn)).symm
   exact ⟨by kernel_rfl, fun j t ht => by
    rw [Tryz.params7] at ht
    rcases j with _ | _ | j
    ·obtain rfl : t = 22 := by simpa using ht.symm
     exact (show Tryz.prog.wantsStandIn 22 = false by kernel_rfl)
    ·obtain rfl : t = 5 := by simpa using ht.symm
     exact (show Tryz.prog.wantsStandIn 5 = false by kernel_rfl)
    ·simp at ht⟩)
  (by kernel_rfl)
end Go.Proofs.YtejdfpieblkapaaGreatDoor
