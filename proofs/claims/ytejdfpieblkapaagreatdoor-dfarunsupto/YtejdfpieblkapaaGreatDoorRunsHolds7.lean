/- For every list of texts and every text, together of at most 1048576 values and letters, the law DfaRuns (P7.1, P7.3) returns true, and its arguments read afterwards as they read before; one table of Go's library is as the program's text lays it (the card ties it). No other condition. -/
import Derived.Test.YtejdfpieblkapaaGreatDoorG46
import Derived.Test.YtejdfpieblkapaaGreatDoorD0
import Derived.Test.YtejdfpieblkapaaGreatDoorRows
import Derived.Test.YtejdfpieblkapaaGreatDoorTie
import Derived.Test.YtejdfpieblkapaaGreatDoorCards
namespace Go.Proofs.YtejdfpieblkapaaGreatDoor
open Go.ChangeShapes Go.WideShapes Go.ChangeAt Go.RowKit
open Go.ChangeMaps (open_string shut_string)

set_option maxRecDepth 100000 in
theorem dfaRunsUpto_lifted (os : Os) (started : os.Started) (H : Type) (enc : TypeId × Value → H) (F : Stop.Interp) :
  ReturnsInHanded {} Tryz.checked os 6 .any ((Rows.OpenSpec.upto Rows.dfaRunsSpec).preRow enc Tryz.prog Tryz.f6 Rows.dfaRunsUptoRow.domain false Rows.dfaRunsUptoRow.laid) (((Rows.OpenSpec.upto Rows.dfaRunsSpec).at F).post enc Tryz.prog Tryz.f6 false true false false) := by
 refine returnsInHanded_of_row (C := Tryz.checked) (s := Rows.OpenSpec.upto Rows.dfaRunsSpec) Tryz.own started (by kernel_rfl) Tryz.func6
  (witness_row_at (enc := enc) (C := Tryz.checked) false (World.laidAll Tryz.prog os Rows.dfaRunsUptoRow.laid) #[.slice none 0 0, .string ⟨#[]⟩] (World.laidAll_os _ _ _) (by kernel_rfl) (by kernel_rfl) (by kernel_rfl)
   (OpenSpec.preRow_of_cond 8 (x := ([.nil, .lit (.string [])], [], [])) (by kernel_rfl) (by kernel_rfl) (fun k hk => by cases hk; kernel_rfl) (by kernel_rfl) (by rw [MakeChecks.laidMetH_plain _ _ _ (by kernel_rfl)]; exact laidMet_laidAll _ (by kernel_rfl) (by kernel_rfl)))) ?_
 intro W base args ds gs before hval0 hW _ hcond _ hL _ _
 have hbd : Rows.uptoBulkAll (ds ++ gs) ≤ 1048576 := of_decide_eq_true (hcond _ rfl)
 clear hcond
 have hval : ∀ (j : Nat) t v, Tryz.f6.params[j]? = some t → args[j]? = some v → Value.okWide Tryz.prog W .any base t v := hval0
 have hW' := hW
 obtain ⟨p, q, hA0, hV, rfl, hfz, hnd⟩ := hW
 have hA : DataW.TrodAll enc Tryz.prog W 0 (fun _ => true) true Tryz.f6.params.toList args.toList ds p := hA0
 rw [Tryz.params6] at hA hval
 obtain ⟨v0, v1, d0, d1, p0, p1, rfl, rfl, rfl, h0, h1⟩ := trodAll_two hA
 obtain ⟨rfl, rfl⟩ := trodVars_none hV
 obtain ⟨x1, rfl, rfl, rfl, wx1⟩ := open_string Tryz.underlying9 (hval 1 9 v1 rfl rfl) h1
 have h0c := h0
 obtain ⟨A0, n0, c0, ss0, rfl, hl0, hc0, hm0, hS0, hn0, hs0⟩ := open_textsB (hval 0 22 v0 rfl rfl) h0c
 clear hA0 hval0
 simp only [List.append_nil] at hW'
 simp only [List.append_nil, Rows.uptoBulkAll] at hbd
 have hlt : ∀ x ∈ p0, x.block < W.heap.size := fun x hx => by simpa using hW'.lt x (by simpa using hx)
 refine (law_runs7 W A0 n0 c0 ss0 x1 (tab_of_laid hL) hl0 hc0 hS0 (by omega) (fun s hs => Nat.le_trans (hs0 s hs) (by omega)) (by unfold maxLen at wx1; omega)).mono fun e W' ⟨he, hb⟩ => ?_
 subst he
 exact ⟨_, rfl, _, _, _, [], _, [], hW', trodAll_mk1 (shut_bool Tryz.underlying4 true), trodAll_mk2 (Below.trod Tryz.laidOut (by kernel_rfl) (of_decide_eq_true (by kernel_rfl)) h0 hb (fun x hx => hlt x (by simp [hx]))) (shut_string Tryz.underlying9 wx1), rfl, hb.frame _, fun h => by cases h⟩

theorem dfaRunsUpto_row : Rows.DfaRunsUptoSaid :=
 OpenClaim.holds_of_cond 6 Tryz.f6 rfl rfl rfl rfl rfl rfl rfl ⟨rfl, rfl, rfl, rfl, rfl⟩ rfl rfl rfl rfl rfl (by kernel_rfl) Tryz.func6 (by kernel_rfl)
  (of_decide_eq_true (by kernel_rfl)) (by unfold Func.isWrapper; first | (rw [if_pos (by decide +kernel)]; kernel_rfl) | (rw [if_neg (by decide +kernel)]; exact ⟨rfl, rfl⟩))
  (fun os started H enc _ F => by rw [OpenClaim.pre_eq_preRow]; exact dfaRunsUpto_lifted os started H enc F)

theorem dfaRunsUpto_holds : Rows.DfaRunsUptoCardSaid :=
 Claim7.holds_tied_plain_at .later [] [.data] true (true, "9f12f1a78da01d0306cc173cb16b64c46fa233fe268123de87bc0325c2585f8f") false
  dfaRunsUpto_row (fun _ h => by cases h) (by kernel_rfl) (fun _ h => by cases h) dfaRunsUpto_row_tie rfl ⟨rfl, rfl⟩ (by kernel_rfl) rfl
  (fun f fn hf hfn => by
   obtain rfl : f = 6 := Option.some.inj ((show Tryz.prog.funcNamed "frisket/frisketlaw07.DfaRuns" = some 6 by kernel_rfl).symm.trans hf) |>.symm
   obtain rfl : fn = Tryz.f6 := (Option.some.inj (Tryz.func6.symm.trans hfn)).symm
   exact ⟨by kernel_rfl, fun j t ht => by
    rw [Tryz.params6] at ht
    rcases j with _ | _ | j
    ·obtain rfl : t = 22 := by simpa using ht.symm
     exact (show Tryz.prog.wantsStandIn 22 = false by kernel_rfl)
    ·obtain rfl : t = 9 := by simpa using ht.symm
     exact (show Tryz.prog.wantsStandIn 9 = false by kernel_rfl)
    ·simp at ht⟩)
  (by kernel_rfl)
end Go.Proofs.YtejdfpieblkapaaGreatDoor
