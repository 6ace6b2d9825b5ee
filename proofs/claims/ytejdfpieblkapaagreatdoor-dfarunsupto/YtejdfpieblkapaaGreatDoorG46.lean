/- The law that Run answers those that mean the text. -/
import Derived.Test.YtejdfpieblkapaaGreatDoorG45
import Derived.Test.YtejdfpieblkapaaGreatDoorG30
namespace Go.Proofs.YtejdfpieblkapaaGreatDoor
open Go.RowKit Go.Shelf

theorem RfR.at {Q : Nat → Prop} {w : World} : ∀ {rs : List Rx} {cb : List Value} {i : Nat} {r : Rx}, RfR Q w rs cb → rs[i]? = some r → ∃ cs, RfQ Q w r cs ∧ ∀ (j : Nat) (v : Value), cs[j]? = some v → cb[i * 258 + j]? = some v
 | [], _, i, r, _, h => by simp at h
 | a :: rs, cb, 0, r, ⟨x, y, h, h1, h2⟩, hr => by
  simp at hr; subst hr
  refine ⟨x, h1, fun j v hj => ?_⟩
  rw [h, Nat.zero_mul, Nat.zero_add, List.getElem?_append_left (List.getElem?_eq_some_iff.1 hj).1]
  exact hj
 | a :: rs, cb, i + 1, r, ⟨x, y, h, h1, h2⟩, hr => by
  obtain ⟨cs, h3, h4⟩ := RfR.at h2 (by simpa using hr)
  refine ⟨cs, h3, fun j v hj => ?_⟩
  rw [h, List.getElem?_append_right (by rw [h1.len]; omega), h1.len, show (i + 1) * 258 + j - 258 = i * 258 + j by omega]
  exact h4 j v hj
end Go.Proofs.YtejdfpieblkapaaGreatDoor

/- The law that an automaton's run accepts the least expression that means the text. -/
namespace Go.Proofs.YtejdfpieblkapaaGreatDoor
open Lib renaming hid → zh
open Go.RowKit Go.Shelf

attribute [local irreducible] seen
def wK (rs : List Rx) (T : List UInt8) (k : Nat) : Option Nat := if T = [] then none else ((List.range rs.length).drop (rs.length - k)).find? (mns rs T)
theorem wK_zero (rs : List Rx) (T : List UInt8) : wK rs T 0 = none := by
 unfold wK
 split
 ·rfl
 ·rw [Nat.sub_zero, List.drop_of_length_le (by simp)]; rfl
theorem wK_step (rs : List Rx) (T : List UInt8) (k : Nat) (hk : k < rs.length) : wK rs T (k + 1) = if T ≠ [] ∧ mns rs T (rs.length - (k + 1)) = true then some (rs.length - (k + 1)) else wK rs T k := by
 unfold wK
 by_cases hT : T = []
 ·rw [if_pos hT, if_neg (fun h => h.1 hT), if_pos hT]
 ·rw [if_neg hT, if_neg hT, List.drop_eq_getElem_cons (by simp; omega), List.getElem_range, List.find?_cons, show rs.length - (k + 1) + 1 = rs.length - k by omega]
  cases h : mns rs T (rs.length - (k + 1)) with
  | true => rw [if_pos ⟨hT, rfl⟩]
  | false => rw [if_neg (fun h => by cases h.2)]
theorem wK_all (rs : List Rx) (T : List UInt8) (hT : T ≠ []) : wK rs T rs.length = wantR rs T := by
 unfold wK wantR
 rw [if_neg hT, Nat.sub_self, List.drop_zero]
theorem run_all {rs : List Rx} {D : Df} (h : DfS rs D) (T : List UInt8) : (D.run T = none ∧ wK rs T rs.length = none) ∨ ∃ n, D.run T = some n ∧ n < D.N ∧ D.ac n = wK rs T rs.length := by
 by_cases hT : T = []
 ·subst hT
  exact .inr ⟨0, rfl, h.n0, by rw [h.ac0]; unfold wK; rw [if_pos rfl]⟩
 ·rw [wK_all rs T hT]
  exact h.want hT

set_option maxRecDepth 100000 in
set_option maxHeartbeats 8000000 in
theorem law_runs7 (w : World) (A : Option Addr) (n c : Nat) (ss : List ByteArray) (t : ByteArray) (hT : TabH w) (hl : ss.length = n) (hnc : n ≤ c) (hS : SsAt w A ss) (hn : n ≤ 1048576) (hs : ∀ s ∈ ss, s.size ≤ 1048576) (htm : t.size ≤ 9223372036854775807) :
  Calls Tryz.prog 6 #[.slice A n c, .string t] w (Ans (.bool true) w) := by
 have HG := zh (great_any w A n c ss hl hS hn hs)
 have HT := zh hT; have HL := zh hl; have HS := zh hS
 have HAW := zh (awake7_any w hT)
 clear hT hl hS hs
 go_enter Tryz.func6, Tryz.ntmps6
 go_wp2_with fail
 refine HG.out.mono ?_
 rintro e w1 ⟨⟨x, rfl, hx, hx0⟩, hw1⟩
 rw [hw1]
 have HX0 := zh hx0
 clear hw1 HG hx0
 by_cases hz : x = 0
 ·obtain ⟨hn6, h40⟩ := HX0.out.1 hz
  have H40 := zh h40
  clear h40 HX0
  subst hz
  by_cases h16 : 16 < t.size
  ·have h16i : (16 : Int) < (t.size : Nat) := by omega
   go_wp2_with (first | (go_at_call 26; refine HAW.out.mono ?_; rintro e w2 ⟨rfl, hba⟩))
   go_ret
   exact ⟨rfl, hba⟩
  ·have h16i : ¬ (16 : Int) < (t.size : Nat) := by omega
   go_wp2_with (first | (go_at_call 26; refine HAW.out.mono ?_; rintro e w2 ⟨rfl, hba⟩; have HBA := zh hba; clear hba))
   have HMK := zh (make_any w2 A n c ss HL.out hnc (HS.out.below HBA.out) hn6 H40.out (HT.out.below HBA.out))
   refine HMK.out.mono ?_
   rintro e w3 ⟨hb3, ⟨rfl, _⟩ | ⟨d, D, gs, ga, gn, cs, ca, cn, vb, cb, Q, rfl, hda, hds, hob, hrf, hsz⟩⟩
   ·have HB3 := zh (below_tr HBA.out hb3 HBA.out.size)
    clear hb3 HMK
    go_wp2_with fail
    go_ret
    exact ⟨rfl, HB3.out⟩
   ·have HB3 := zh (below_tr HBA.out hb3 HBA.out.size)
    have hr6 : (rxs ss).length ≤ 6 := by have := rxs_len ss; rw [HL.out] at this; omega
    generalize rxs ss = rs at hds hob hrf hsz hr6
    obtain ⟨Ab, cbp, rfl, hmb, hcb⟩ := own_form hob
    obtain ⟨nb, hnb⟩ : ∃ nb, nb = rs.length := ⟨_, rfl⟩
    rw [← hnb] at hob hmb hr6 ⊢
    have HNB := zh hnb
    have HDA := zh hda; have HDS := zh hds; have HOB := zh hob; have HRB := zh hrf; have HSZ := zh hsz
    obtain ⟨T, hTT⟩ : ∃ T, T = t.data.toList := ⟨_, rfl⟩
    have HTT := zh hTT
    have hTz : T.length = t.size := by rw [hTT]; simp
    clear hb3 HMK hda hds hob hrf hsz hnb hTT
    go_wp2_with fail
    go_loopw [7, 8] (fun v i wr => ∃ k : Nat, k ≤ nb ∧ i = .int .i64 ((nb : Int) - 1 - k) ∧ v = av (wK rs T k) ∧ Hid (Below w3.heap.size w3 wr)) (fun _ i _ => (intOf i + 1).toNat)
    case atStart => exact ⟨0, Nat.zero_le _, by congr 1; omega, by rw [wK_zero]; rfl, zh (Below.refl _ _)⟩
    case round =>
     obtain ⟨k, hk, rfl, rfl, HB⟩ := hrel
     have hstep := wK_step rs T k
     rw [← HNB.out] at hstep
     have HSTEP := zh hstep
     obtain ⟨zv, hzv⟩ : ∃ zv : Int, av (wK rs T k) = .int .i64 zv := by cases wK rs T k <;> exact ⟨_, rfl⟩
     have HZV := zh hzv
     rw [hzv]
     clear hstep hzv
     by_cases hlt : k < nb
     ·obtain ⟨j, hj⟩ : ∃ j, j = nb - (k + 1) := ⟨_, rfl⟩
      have hji : (nb : Int) - 1 - k = (j : Int) := by omega
      have hjn : j < nb := by omega
      have hjni : (j : Int) < nb := by omega
      have hj0 : (0 : Int) ≤ j := by omega
      rw [hji]
      have HJ := zh hj; have HJI := zh hji
      clear hj hji
      by_cases ht0 : t.size = 0
      ·have htb : t = ⟨#[]⟩ := by
        obtain ⟨a⟩ := t
        have : a = #[] := Array.eq_empty_of_size_eq_zero ht0
        rw [this]
       have hTn : T = [] := List.length_eq_zero_iff.1 (by omega)
       subst htb
       go_wp2_with fail
       go_roundw
       case rel => exact ⟨k + 1, by omega, by congr 1; have := HJI.out; (try unfold wrap64); omega, by rw [HSTEP.out (by omega), if_neg (fun h => h.1 hTn), HZV.out], HB⟩
       case measure => simp [intOf]; try omega
      ·have htne : ¬ t = ⟨#[]⟩ := fun e => ht0 (by rw [e]; rfl)
       have hTn : T ≠ [] := fun e => ht0 (by rw [← hTz, e]; rfl)
       have hie : t.toList.isEmpty = false := by
        rw [ByteArray.toList_eq, List.isEmpty_eq_false_iff]
        intro e
        refine ht0 ?_
        have := congrArg List.length e
        simpa using this
       obtain ⟨r, hr⟩ : ∃ r, rs[j]? = some r := ⟨_, List.getElem?_eq_getElem (by rw [← HNB.out]; exact hjn)⟩
       obtain ⟨cs', hq, hcs⟩ := HRB.out.at hr
       obtain ⟨gb, rfl, hcell, _⟩ := own_cells HOB.out (by omega)
       have HRA : Hid (wr.rangeAt gb (j * 258) cs') := zh (fun i v hi => cell_below HB.out (hcell _ _ (hcs i v hi)))
       have HRF := zh (hq.rf.below HB.out)
       have HLN := zh hq.len
       have hmn : mns rs T j = r.mt T := by unfold mns; rw [hr]
       have HMT := zh (rmatches_any wr r cs' t HRF.out (by omega))
       rw [← HTT.out, ← hmn] at HMT
       obtain ⟨β, hβ⟩ : ∃ β, β = mns rs T j := ⟨_, rfl⟩
       rw [← hβ] at HMT
       have HBT := zh hβ
       have HTN := zh hTn
       clear hr hq hcs hcell hmn hβ hTn
       cases β with
       | true =>
        go_wp2_with fail
        rename_i KL hKL
        have HKL := zh hKL
        clear hKL
        refine wp_load_mid 36 _ rfl gb (j * 258) rfl cs' _ HRA.out Tryz.underlying36 rfl (by rw [HLN.out]; exact Tryz.info36) (HKL.out _ _ ?_)
        go_wp2_with (first | (go_at_call 14; refine HMT.out.mono ?_; rintro e w5 ⟨rfl, hb5⟩; have HB5 := zh (below_tr HB.out hb5 HB.out.size); clear hb5))
        go_roundw
        case rel => exact ⟨k + 1, by omega, by congr 1; have := HJI.out; (try unfold wrap64); omega, by rw [HSTEP.out (by omega), if_pos ⟨HTN.out, by rw [← HJ.out, ← HBT.out]⟩, ← HJ.out]; rfl, HB5⟩
        case measure => simp [intOf]; try omega
       | false =>
        go_wp2_with fail
        rename_i KL hKL
        have HKL := zh hKL
        clear hKL
        refine wp_load_mid 36 _ rfl gb (j * 258) rfl cs' _ HRA.out Tryz.underlying36 rfl (by rw [HLN.out]; exact Tryz.info36) (HKL.out _ _ ?_)
        go_wp2_with (first | (go_at_call 14; refine HMT.out.mono ?_; rintro e w5 ⟨rfl, hb5⟩; have HB5 := zh (below_tr HB.out hb5 HB.out.size); clear hb5))
        go_roundw
        case rel => exact ⟨k + 1, by omega, by congr 1; have := HJI.out; (try unfold wrap64); omega, by rw [HSTEP.out (by omega), if_neg (fun h => by rw [← HJ.out, ← HBT.out] at h; cases h.2), HZV.out], HB5⟩
        case measure => simp [intOf]; try omega
     ·obtain rfl : k = nb := by omega
      have hneg : (k : Int) - 1 - k = -1 := by omega
      rw [hneg]
      have hall := run_all HDS.out T
      rw [← HNB.out] at hall
      have hdr := drun_df wr d gs ga gn cs ca cn D t (HDA.out.below HB.out) HDS.out.Ok (by omega)
      rw [← HTT.out] at hdr
      rcases hall with ⟨h1, h2⟩ | ⟨m, h1, h2, h3⟩
      ·rw [h1] at hdr
       have hzz : zv = -1 := by
        have := HZV.out
        rw [h2] at this
        injection this with _ this
        exact this.symm
       subst hzz
       unfold nxA at hdr
       have HDR := zh hdr
       clear h1 h2 hdr hneg
       go_wp2_with fail
       refine HDR.out.mono ?_
       rintro e w5 ⟨rfl, hb5⟩
       have HB5 := zh (below_tr HB3.out (below_tr HB.out hb5 HB.out.size) HB3.out.size)
       clear hb5 HDR
       go_wp2_with fail
       go_ret
       exact ⟨rfl, HB5.out⟩
      ·rw [h1] at hdr
       unfold nxA at hdr
       have HDR := zh hdr; have H2 := zh h2; have H3 := zh h3
       clear h1 h2 h3 hdr hneg
       go_wp2_with fail
       refine HDR.out.mono ?_
       rintro e w5 ⟨rfl, hb5⟩
       have HB5 := zh (below_tr HB.out hb5 HB.out.size)
       have hac := accept_df w5 d gs ga gn cs ca cn m D (HDA.out.below HB5.out) H2.out
       rw [H3.out, HZV.out] at hac
       have HAC := zh hac
       clear hb5 HDR hac
       go_wp2_with fail
       refine HAC.out.mono ?_
       rintro e w6 ⟨rfl, hw6⟩
       rw [hw6]
       clear hw6
       go_wp2_with fail
       go_ret
       exact ⟨rfl, below_tr HB3.out HB5.out HB3.out.size⟩
 ·have hzi : (0 : Int) < x := by omega
  go_wp2_with (first | (go_at_call 26; refine HAW.out.mono ?_; rintro e w2 ⟨rfl, hba⟩))
  go_ret
  exact ⟨rfl, hba⟩
end Go.Proofs.YtejdfpieblkapaaGreatDoor
