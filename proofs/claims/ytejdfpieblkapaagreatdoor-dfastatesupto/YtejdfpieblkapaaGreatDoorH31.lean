/- The law of states. -/
import Derived.Test.YtejdfpieblkapaaGreatDoorG45
namespace Go.Proofs.YtejdfpieblkapaaGreatDoor
open Lib renaming hid → zh
open Go.RowKit Go.Shelf

attribute [local irreducible] seen
set_option maxRecDepth 100000 in
set_option maxHeartbeats 16000000 in
theorem law_states7 (w : World) (A : Option Addr) (n c : Nat) (ss : List ByteArray) (b : UInt8) (hT : TabH w) (hl : ss.length = n) (hnc : n ≤ c) (hS : SsAt w A ss) (hn : n ≤ 1048576) (hs : ∀ s ∈ ss, s.size ≤ 1048576) :
  Calls Tryz.prog 7 #[.slice A n c, .int .u8 b.toNat] w (Ans (.bool true) w) := by
 have HG := zh (great_any w A n c ss hl hS hn hs)
 have HT := zh hT; have HL := zh hl; have HS := zh hS
 have HAW := zh (awake7_any w hT)
 clear hT hl hS hs
 go_enter Tryz.func7, Tryz.ntmps7
 go_wp2_with fail
 refine HG.out.mono ?_
 rintro e w1 ⟨⟨x, rfl, hx, hx0⟩, hw1⟩
 rw [hw1]
 have HX0 := zh hx0
 clear hw1 HG hx0
 by_cases hz : x = 0
 ·obtain ⟨hn6, h40⟩ := HX0.out.1 hz
  have H40 := zh h40
  clear h40 HX0
  subst hz
  go_wp2_with (first | (go_at_call 26; refine HAW.out.mono ?_; rintro e w2 ⟨rfl, hba⟩; have HBA := zh hba; clear hba))
  have HRU := zh (rules_law w2 A n c ss HL.out hnc (HS.out.below HBA.out) hn6 H40.out)
  have HR6 : Hid ((rxs ss).length ≤ 6) := zh (by have := rxs_len ss; rw [HL.out] at this; omega)
  refine HRU.out.mono ?_
  rintro e w3 ⟨va, vb, bad, bs, cb, Q, rfl, hR, hsz⟩
  generalize rxs ss = rs at hR hsz HR6
  have HNW := zh (new_ofr hR HR6.out hsz)
  have HB3 := zh (below_tr HBA.out hR.bl HBA.out.size)
  clear hR hsz HRU
  go_wp2_with fail
  refine HNW.out.mono ?_
  rintro e w4 ⟨hb4, ⟨_, xe, hxe, rfl⟩ | ⟨B, mb, rfl, hms⟩⟩
  ·have HB4 := zh (below_tr HB3.out hb4 HB3.out.size)
   have HDN := zh (dnew_nil w4)
   clear hb4 HNW
   go_wp2_with fail
   refine HDN.out.mono ?_
   rintro e w5 ⟨rfl, hw5⟩
   rw [hw5]
   clear hw5
   go_wp2_with fail
   go_ret
   exact ⟨rfl, HB4.out⟩
  ·have HB4 := zh (below_tr HB3.out hb4 HB3.out.size)
   have HDN := zh (dnew_any w4 B mb rs hms (by have := HR6.out; omega) (HT.out.below HB4.out))
   have HMS := zh hms
   clear hb4 hms HNW
   go_wp2_with fail
   refine HDN.out.mono ?_
   rintro e w5 ⟨hb5, ⟨rfl, _⟩ | ⟨d, D, gs, ga, gn, cs, ca, cn, rfl, hda, hds⟩⟩
   ·have HB5 := zh (below_tr HB4.out hb5 HB4.out.size)
    clear hb5 HDN
    go_wp2_with fail
    go_ret
    exact ⟨rfl, HB5.out⟩
   ·have HB5 := zh (below_tr HB4.out hb5 HB4.out.size)
    have HM5 := zh (HMS.out.below hb5)
    have HDA := zh hda; have HDS := zh hds
    have hc2 := HMS.out.le
    obtain ⟨N, hN⟩ : ∃ N, N = D.N := ⟨_, rfl⟩
    obtain ⟨M, hM⟩ : ∃ M, M = cntS rs := ⟨_, rfl⟩
    have HN := zh hN; have HMM := zh hM
    have hN2 : N ≤ 2000 := by rw [hN]; exact hds.n1
    rw [← hM] at hc2
    have HST := zh (states_df w5 d gn D.N cn hda.c2)
    rw [← hN] at HST
    have HT5 := zh (HT.out.below HB5.out)
    clear hb5 hda hds hN hM HDN HMS
    by_cases h200 : 200 < N
    ·have h200i : (200 : Int) < N := by omega
     go_wp2_with (first | (go_at_call 31; refine HST.out.mono ?_; rintro e w6 ⟨rfl, hw6⟩; rw [hw6]; clear hw6))
     go_ret
     exact ⟨rfl, HB5.out⟩
    ·have h200i : ¬ (200 : Int) < N := by omega
     obtain ⟨tp, tp0, tps, tpN, hord⟩ := HDS.out.ord
     have TP0 := zh tp0; have TPS := zh tps; have TPN := zh tpN; have HORD := zh hord
     clear tp0 tps tpN hord
     go_wp2_with (first | (go_at_call 31; refine HST.out.mono ?_; rintro e w6 ⟨rfl, hw6⟩; rw [hw6]; clear hw6))
     go_loopw [12, 13] (fun v i wr => ∃ k t : Nat, k ≤ N ∧ t ≤ 2000 ∧ i = .int .i64 k ∧ v = .int .i64 t ∧ Hid (t = tp k 0) ∧ Hid (Below w5.heap.size w5 wr)) (fun _ i _ => N - (intOf i).toNat)
     case atStart => exact ⟨0, 0, Nat.zero_le _, Nat.zero_le _, rfl, rfl, zh TP0.out.symm, zh (Below.refl _ _)⟩
     case round =>
      clear HST
      obtain ⟨k, t, hk, ht2, rfl, rfl, HTE, HB⟩ := hrel
      have HST := zh (states_df wr d gn D.N cn (HDA.out.below HB.out).c2)
      rw [← HN.out] at HST
      by_cases hlt : k < N
      ·have hki : (k : Int) < N := by omega
       have hk0 : (0 : Int) ≤ k := by omega
       have hkD : k < D.N := by rw [← HN.out]; exact hlt
       have HKD := zh hkD
       have HPO := zh (pos7_any wr d gs ga gn cs ca cn k rs D (HDA.out.below HB.out) HDS.out hkD (HT5.out.below HB.out) (by rw [← HMM.out]; exact hc2))
       have hpl := psN_len HDA.out HDS.out hkD (by rw [← HMM.out]; exact hc2)
       clear hkD
       go_wp2_with (first | (go_at_call 31; refine HST.out.mono ?_; rintro e w6 ⟨rfl, hw6⟩; rw [hw6]; clear hw6))
       refine HPO.out.mono ?_
       rintro e w7 ⟨AP, m, cp, rfl, hm, hns, hb7⟩
       rw [← hm] at hpl
       have HM := zh hm; have HNS := zh hns
       have HB7 := zh (below_tr HB.out hb7 HB.out.size)
       have HPZ : Hid (k = 0 → m = 0) := zh (fun e => by rw [hm, e, psN_zero HDA.out HDS.out]; rfl)
       have HPP : Hid (0 < k → 0 < m) := zh (fun e => by
        obtain ⟨q, hq⟩ := HDS.out.ne k e HKD.out
        rw [hm]
        exact List.length_pos_of_mem (((psN_mem HDA.out HDS.out HKD.out).1 q).2 hq))
       clear hm hns hb7 HPO HST
       have HR0 : Hid (w7.ownsRow w7.heap.size 3 1 (.slice none 0 0) (wnt rs D k b 0).length ((wnt rs D k b 0).map pv)) := zh (World.ownsRow_nil _ _ _ _)
       obtain ⟨i0, hi0, hz0, hz1, hz2⟩ := info_parts Tryz.info3
       have HI := zh hi0; have HZ0 := zh hz0; have HZ1 := zh hz1; have HZ2 := zh hz2
       clear hi0 hz0 hz1 hz2
       by_cases hk0' : k = 0
       ·subst hk0'
        have hm0 := HPZ.out rfl
        subst hm0
        go_wp2_with fail
        go_loopw [15, 16] (fun v i wr => ∃ q : Nat, q ≤ M ∧ i = .int .i64 q ∧ Hid (wr.ownsRow w7.heap.size 3 1 v (wnt rs D 0 b q).length ((wnt rs D 0 b q).map pv)) ∧ Hid (Below w7.heap.size w7 wr)) (fun _ i _ => M - (intOf i).toNat)
        case atStart => exact ⟨0, Nat.zero_le _, rfl, HR0, zh (Below.refl _ _)⟩
        case round =>
         clear HR0
         obtain ⟨q, hq, rfl, HO, HBQ⟩ := hrel
         obtain ⟨Aw, cw, rfl, hac, hcm⟩ := own_form HO.out
         obtain ⟨mw, hmw⟩ : ∃ mw, mw = (wnt rs D 0 b q).length := ⟨_, rfl⟩
         have hmq : mw ≤ q := by rw [hmw]; unfold wnt; have := List.length_filter_le (fun q => isQ rs D 0 q && hsS rs q b) (List.range q); simpa using this
         rw [← hmw] at HO hac ⊢
         have HMW := zh hmw
         have HWS := zh (wnt_succ rs D 0 b q)
         clear hmw
         generalize wr = wq at *
         have HLN := zh (len_ms wq B mb rs (HM5.out.below (below_tr HB7.out HBQ.out HB7.out.size)))
         rw [← HMM.out] at HLN
         by_cases hlq : q < M
         ·have hqi : (q : Int) < M := by omega
          have hqi0 : (0 : Int) ≤ q := by omega
          obtain ⟨R, r, hRr, hR1, hR2⟩ := whose (rs := rs) (p := q) (by rw [← HMM.out]; exact hlq)
          have hRl : (rlS rs 0)[q]? = some R := by rw [rlS_at (k := 0) hRr hR1 hR2, Nat.zero_add]
          obtain ⟨l, hl⟩ : ∃ l, (fstS rs 0)[R]? = some l := ⟨_, List.getElem?_eq_getElem (by rw [fstS_len]; exact (List.getElem?_eq_some_iff.1 hRr).1)⟩
          have HRO := zh (ruleOf_any wq B mb rs (HM5.out.below (below_tr HB7.out HBQ.out HB7.out.size)) q R (by rw [← HMM.out]; exact hlq) hRl)
          have hlen := (fstS_get hl).2
          rw [← HMM.out] at hlen
          have HQL : Hid (decide (q ∈ l) = isQ rs D 0 q) := zh (by
           rw [Bool.eq_iff_iff, decide_eq_true_eq]
           unfold isQ
           rw [if_pos rfl]
           simp only [List.any_eq_true, decide_eq_true_eq]
           constructor
           ·intro h; exact ⟨l, List.mem_of_getElem? hl, h⟩
           ·rintro ⟨l', hl', hq'⟩
            obtain ⟨i, hi⟩ := List.getElem?_of_mem hl'
            have h1 := (fstS_own hi q hq').2
            rw [hRl] at h1
            injection h1 with h1
            subst h1
            rw [hl] at hi
            rw [Option.some.inj hi]; exact hq')
          have HLL := zh hl
          clear hRr hR1 hR2 hRl hl
          go_wp2_with (first | (go_at_call 17; refine HLN.out.mono ?_; rintro e w8 ⟨rfl, hw8⟩; rw [hw8]; clear hw8))
          go_loopw [17, 18] (fun v i wr => v = .bool false ∧ i = .int .i64 (0 : Nat) ∧ Hid (wr = wq)) (fun _ _ _ => 0)
          case atStart => exact ⟨rfl, rfl, zh rfl⟩
          case round =>
           obtain ⟨rfl, rfl, HW⟩ := hrel
           have hw := HW.out
           subst hw
           clear HW
           have HFI := zh (first_any wr B mb rs (HM5.out.below (below_tr HB7.out HBQ.out HB7.out.size)) (by have := HR6.out; omega) R l HLL.out)
           go_wp2_with (first | (go_at_call 21; refine HRO.out.mono ?_; rintro e w8 ⟨rfl, hw8⟩; rw [hw8]; clear hw8))
           refine HFI.out.mono ?_
           rintro e w9 ⟨v9, rfl, ho9, hb9⟩
           obtain ⟨A9, c9, rfl, _⟩ := own_form ho9
           have HH7 := zh (has7_any w9 A9 l.length c9 q l (own_ns ho9) rfl (by omega))
           rw [HQL.out] at HH7
           have HBW := zh hb9
           obtain ⟨β, hβ⟩ : ∃ β, β = isQ rs D 0 q := ⟨_, rfl⟩
           rw [← hβ] at HH7
           have HQB := zh hβ
           clear ho9 hb9 hβ HFI HRO
           go_wp2_with fail
           refine HH7.out.mono ?_
           rintro e w12 ⟨rfl, hw12⟩
           rw [hw12]
           clear hw12 HH7
           have HHY := zh (has_yes w9 B mb rs ((HM5.out.below (below_tr HB7.out HBQ.out HB7.out.size)).below HBW.out) q (by rw [← HMM.out]; exact hlq) b)
           cases β with
           | true =>
            obtain ⟨γ, hγ⟩ : ∃ γ, γ = hsS rs q b := ⟨_, rfl⟩
            rw [← hγ] at HHY
            have HGE := zh hγ
            clear hγ
            cases γ with
            | true =>
             have HYES : Hid ((isQ rs D 0 q && hsS rs q b) = true) := zh (by rw [← HQB.out, ← HGE.out]; rfl)
             go_upto_region 29 with (first | (go_at_call 22; refine HHY.out.mono ?_; rintro e w11 ⟨rfl, hw11⟩; rw [hw11]; clear hw11))
             have HOR := zh (own_keep' HO.out (Kb.of_below (fun _ => False) HBW.out) (fun _ _ x => x))
             have hsz0 : w7.heap.size ≤ w9.heap.size := Nat.le_trans HBQ.out.size HBW.out.size
             go_wp2_with (at_builtin; refine wpList_append_lies _ rfl _ _ 32 rfl w7.heap.size 3 i0 _ 1 8 Tryz.underlying32 HI.out HZ0.out HZ1.out HZ2.out rfl (by omega) (.slice Aw mw cw) mw _ rfl (HOR.out.alloc _) ⟨w9.heap.size, 0, none⟩ 1 1 [.int .i64 q] rfl rfl (World.news_of_block (cs := #[.int .i64 q]) (t := 3) (fr := (0, 0)) (heap_alloc_new w9 _)) (by simp [Value.oneCell']) (by omega) (by unfold maxLen; omega) (by omega) (by simp; omega) (w9.heap.size + 1) (by simp) ?_; intro gg cap6 w10 hown6 hgrow6 hat6 hlt6; have hg6 := grown_kb hgrow6; have HB10 := zh (HBQ.out.trans ((HBW.out.mono HBQ.out.size).trans (hg6.below hsz0 (fun i e => (own_ty HOR.out e.symm).1)))); have HO10 := zh hown6; clear hg6 hown6 hgrow6 hat6 hlt6)
             go_roundw
             case rel =>
              refine ⟨q + 1, by omega, by go_num, ?_, HB10⟩
              rw [HWS.out, if_pos HYES.out, List.length_append, List.length_singleton, List.map_append, ← HMW.out]
              exact HO10
             case measure => simp [intOf]; omega
            | false =>
             have HNO : Hid (¬ (isQ rs D 0 q && hsS rs q b) = true) := zh (by rw [← HQB.out, ← HGE.out]; simp)
             go_wp2_with (first | (go_at_call 22; refine HHY.out.mono ?_; rintro e w11 ⟨rfl, hw11⟩; rw [hw11]; clear hw11))
             have HBZ := zh (HBQ.out.trans (HBW.out.mono HBQ.out.size))
             have HOR := zh (own_keep' HO.out (Kb.of_below (fun _ => False) HBW.out) (fun _ _ x => x))
             go_roundw
             case rel =>
              refine ⟨q + 1, by omega, by go_num, ?_, HBZ⟩
              rw [HWS.out, if_neg HNO.out, List.append_nil, ← HMW.out]
              exact HOR
             case measure => simp [intOf]; omega
           | false =>
            have HNO : Hid (¬ (isQ rs D 0 q && hsS rs q b) = true) := zh (by rw [← HQB.out]; simp)
            go_wp2_with fail
            have HBZ := zh (HBQ.out.trans (HBW.out.mono HBQ.out.size))
            have HOR := zh (own_keep' HO.out (Kb.of_below (fun _ => False) HBW.out) (fun _ _ x => x))
            go_roundw
            case rel =>
             refine ⟨q + 1, by omega, by go_num, ?_, HBZ⟩
             rw [HWS.out, if_neg HNO.out, List.append_nil, ← HMW.out]
             exact HOR
            case measure => simp [intOf]; omega
         ·obtain rfl : M = q := by omega
          have HSTP := zh (wnt_step HDA.out HDS.out HKD.out b)
          rw [← HMM.out] at HSTP
          have HBX := zh (below_tr HB7.out HBQ.out HB7.out.size)
          have HNX := zh (next_df wq d gs ga gn cs ca cn 0 D b (HDA.out.below HBX.out) HKD.out)
          have HNSQ := zh (HNS.out.below HBQ.out)
          have hcont : ∀ (wz : World), Below wq.heap.size wq wz → Below w5.heap.size w5 wz := fun wz hz => below_tr HBX.out hz HBX.out.size
          have HCONT := zh hcont
          clear hcont
          rcases HSTP.out with ⟨hn1, hn2⟩ | ⟨kk, hn1, hn2, hn3, hn4, hn5⟩
          ·rw [hn1] at HNX
           have hmw0 : mw = 0 := by rw [HMW.out, hn2]; rfl
           subst hmw0
           unfold nxA at HNX
           clear hn1 hn2 HSTP
           go_wp2_with (first | (go_at_call 17; refine HLN.out.mono ?_; rintro e w8 ⟨rfl, hw8⟩; rw [hw8]; clear hw8))
           refine HNX.out.mono ?_
           rintro e wy ⟨rfl, hby⟩
           have HBY := zh hby
           clear hby HNX HO
           go_wp2_with fail
           go_loopw [12, 21] (fun v i wr => ∃ c t : Nat, c ≤ 256 ∧ t ≤ 2000 ∧ i = .int .i64 c ∧ v = .int .i64 t ∧ Hid (t = tp 0 c) ∧ Hid (Below wy.heap.size wy wr)) (fun _ i _ => 256 - (intOf i).toNat)
           case atStart => exact ⟨0, t, by omega, ht2, rfl, rfl, HTE, zh (Below.refl _ _)⟩
           case round =>
            obtain ⟨c', t', hc', ht', rfl, rfl, HTE', HB'⟩ := hrel
            have HBC := zh (HCONT.out wr (below_tr HBY.out HB'.out HBY.out.size))
            by_cases hlc : c' < 256
            ·have hci : (c' : Int) < 256 := by omega
             have hci0 : (0 : Int) ≤ c' := by omega
             have hcb : (UInt8.ofNat c').toNat = c' := by simp; omega
             have HNC := zh (next_df wr d gs ga gn cs ca cn 0 D (UInt8.ofNat c') (HDA.out.below HBC.out) HKD.out)
             rw [hcb] at HNC
             have ho := HORD.out 0 HKD.out c' hlc
             rw [← HTE'.out] at ho
             obtain ⟨o, hoo⟩ : ∃ o, o = D.nx 0 (D.cl c') := ⟨_, rfl⟩
             have hok : ∀ q, o = some q → q < D.N := fun q hq => HDS.out.ok 0 _ q HKD.out (by rw [← hoo]; exact hq)
             rw [← hoo] at HNC ho
             clear hoo hcb
             cases o with
             | none =>
              have HO1 := zh (ho.1 rfl)
              unfold nxA at HNC
              clear ho hok
              go_wp2_with fail
              refine HNC.out.mono ?_
              rintro e wz ⟨rfl, hbz⟩
              have HBZ' := zh (below_tr HB'.out hbz HB'.out.size)
              clear hbz HNC
              go_wp2_with fail
              go_roundw
              case rel => exact ⟨c' + 1, t', by omega, ht', by go_num, rfl, zh (by rw [HO1.out]), HBZ'⟩
              case measure => simp [intOf]; omega
             | some kz =>
              obtain ⟨ho1, ho2⟩ := ho.2 kz rfl
              have hkz := hok kz rfl
              rw [← HN.out] at hkz
              have HO2 := zh ho2
              have hgt : ¬ (t' : Int) + 1 < kz := by omega
              unfold nxA at HNC
              clear ho hok ho2
              go_wp2_with fail
              refine HNC.out.mono ?_
              rintro e wz ⟨rfl, hbz⟩
              have HBZ' := zh (below_tr HB'.out hbz HB'.out.size)
              clear hbz HNC
              go_wp2_with fail
              go_roundw
              case rel => exact ⟨c' + 1, max t' kz, by omega, by omega, by go_num, by congr 1; omega, zh (by rw [HO2.out]), HBZ'⟩
              case measure => simp [intOf]; omega
            ·have hce : c' = 256 := by omega
             have hci : ¬ (c' : Int) < 256 := by omega
             have htn := (HTE'.out.trans (by rw [hce])).trans (TPS.out 0 HKD.out)
             have HTN := zh htn
             have HNSR := zh ((HNSQ.out.below HBY.out).below HB'.out)
             clear htn
             generalize wr = wg at *
             go_wp2_with fail
             go_loopw [24] (fun i wr => ∃ j : Nat, 1 ≤ j ∧ i = .int .i64 j ∧ Hid (Below wg.heap.size wg wr)) (fun i _ => 0 - (intOf i).toNat)
             case atStart => exact ⟨1, Nat.le_refl _, rfl, zh (Below.refl _ _)⟩
             case round =>
              obtain ⟨j, hj1, rfl, HBJ⟩ := hrel
              have HBCJ := zh (below_tr HBC.out HBJ.out HBC.out.size)
              by_cases hljk : j < 0
              ·omega
              ·have hjki : ¬ (j : Int) < (0 : Nat) := by omega
               go_wp2_with fail
               refine ⟨⟨0 + 1, t', by omega, ht', by go_num, rfl, HTN, HBCJ⟩, ?_⟩
               simp [intOf]; omega
          ·rw [hn1] at HNX
           have hmwp : 0 < mw := by rw [HMW.out, hn4]; exact hn5
           have hmwi : (0 : Int) < mw := by omega
           have hkk0 : ¬ (kk : Int) = 0 := by omega
           have HN4 := zh hn4
           unfold nxA at HNX
           have HN3 := zh hn3
           clear hn1 hn2 hn3 hn4 hn5 HSTP
           go_wp2_with (first | (go_at_call 17; refine HLN.out.mono ?_; rintro e w8 ⟨rfl, hw8⟩; rw [hw8]; clear hw8))
           refine HNX.out.mono ?_
           rintro e wx ⟨rfl, hbx⟩
           have HBX2 := zh hbx
           have HPO2 := zh (pos7_any wx d gs ga gn cs ca cn kk rs D (HDA.out.below (HCONT.out wx hbx)) HDS.out HN3.out (HT5.out.below (HCONT.out wx hbx)) (by rw [← HMM.out]; exact hc2))
           clear hbx HNX
           go_wp2_with fail
           refine HPO2.out.mono ?_
           rintro e wy0 ⟨A3, m3, c3, rfl, hm3, hns3, hb3'⟩
           have HBY0 := zh (below_tr HBX2.out hb3' HBX2.out.size)
           have hwl : (psN D kk).length = mw := by rw [← HN4.out]; exact HMW.out.symm
           have hm3w : m3 = mw := hm3.trans hwl
           subst hm3w
           have hm2000 := psN_len HDA.out HDS.out HN3.out (by rw [← HMM.out]; exact hc2)
           have HSM := zh (same7_any wy0 A3 Aw m3 m3 c3 cw (psN D kk) (psN D kk) hns3 (by
            have h1 := (own_ns HO.out).below HBY0.out
            rw [← HN4.out]; exact h1) hwl hwl (by omega))
           rw [decide_eq_true rfl] at HSM
           clear hm3 hns3 hb3' hwl hm2000 HPO2
           go_wp2_with fail
           refine HSM.out.mono ?_
           rintro e wy ⟨rfl, hby⟩
           have HBY := zh (below_tr HBY0.out hby HBY0.out.size)
           clear hby HSM HO
           go_wp2_with fail
           go_loopw [12, 21] (fun v i wr => ∃ c t : Nat, c ≤ 256 ∧ t ≤ 2000 ∧ i = .int .i64 c ∧ v = .int .i64 t ∧ Hid (t = tp 0 c) ∧ Hid (Below wy.heap.size wy wr)) (fun _ i _ => 256 - (intOf i).toNat)
           case atStart => exact ⟨0, t, by omega, ht2, rfl, rfl, HTE, zh (Below.refl _ _)⟩
           case round =>
            obtain ⟨c', t', hc', ht', rfl, rfl, HTE', HB'⟩ := hrel
            have HBC := zh (HCONT.out wr (below_tr HBY.out HB'.out HBY.out.size))
            by_cases hlc : c' < 256
            ·have hci : (c' : Int) < 256 := by omega
             have hci0 : (0 : Int) ≤ c' := by omega
             have hcb : (UInt8.ofNat c').toNat = c' := by simp; omega
             have HNC := zh (next_df wr d gs ga gn cs ca cn 0 D (UInt8.ofNat c') (HDA.out.below HBC.out) HKD.out)
             rw [hcb] at HNC
             have ho := HORD.out 0 HKD.out c' hlc
             rw [← HTE'.out] at ho
             obtain ⟨o, hoo⟩ : ∃ o, o = D.nx 0 (D.cl c') := ⟨_, rfl⟩
             have hok : ∀ q, o = some q → q < D.N := fun q hq => HDS.out.ok 0 _ q HKD.out (by rw [← hoo]; exact hq)
             rw [← hoo] at HNC ho
             clear hoo hcb
             cases o with
             | none =>
              have HO1 := zh (ho.1 rfl)
              unfold nxA at HNC
              clear ho hok
              go_wp2_with fail
              refine HNC.out.mono ?_
              rintro e wz ⟨rfl, hbz⟩
              have HBZ' := zh (below_tr HB'.out hbz HB'.out.size)
              clear hbz HNC
              go_wp2_with fail
              go_roundw
              case rel => exact ⟨c' + 1, t', by omega, ht', by go_num, rfl, zh (by rw [HO1.out]), HBZ'⟩
              case measure => simp [intOf]; omega
             | some kz =>
              obtain ⟨ho1, ho2⟩ := ho.2 kz rfl
              have hkz := hok kz rfl
              rw [← HN.out] at hkz
              have HO2 := zh ho2
              have hgt : ¬ (t' : Int) + 1 < kz := by omega
              unfold nxA at HNC
              clear ho hok ho2
              go_wp2_with fail
              refine HNC.out.mono ?_
              rintro e wz ⟨rfl, hbz⟩
              have HBZ' := zh (below_tr HB'.out hbz HB'.out.size)
              clear hbz HNC
              go_wp2_with fail
              go_roundw
              case rel => exact ⟨c' + 1, max t' kz, by omega, by omega, by go_num, by congr 1; omega, zh (by rw [HO2.out]), HBZ'⟩
              case measure => simp [intOf]; omega
            ·have hce : c' = 256 := by omega
             have hci : ¬ (c' : Int) < 256 := by omega
             have htn := (HTE'.out.trans (by rw [hce])).trans (TPS.out 0 HKD.out)
             have HTN := zh htn
             have HNSR := zh ((HNSQ.out.below HBY.out).below HB'.out)
             clear htn
             generalize wr = wg at *
             go_wp2_with fail
             go_loopw [24] (fun i wr => ∃ j : Nat, 1 ≤ j ∧ i = .int .i64 j ∧ Hid (Below wg.heap.size wg wr)) (fun i _ => 0 - (intOf i).toNat)
             case atStart => exact ⟨1, Nat.le_refl _, rfl, zh (Below.refl _ _)⟩
             case round =>
              obtain ⟨j, hj1, rfl, HBJ⟩ := hrel
              have HBCJ := zh (below_tr HBC.out HBJ.out HBC.out.size)
              by_cases hljk : j < 0
              ·omega
              ·have hjki : ¬ (j : Int) < (0 : Nat) := by omega
               go_wp2_with fail
               refine ⟨⟨0 + 1, t', by omega, ht', by go_num, rfl, HTN, HBCJ⟩, ?_⟩
               simp [intOf]; omega
       ·have hkp : 0 < k := by omega
        have hkpi : (0 : Int) < k := by omega
        have hkpn : ¬ (k : Int) = 0 := by omega
        have hmp := HPP.out hkp
        have hmpn : ¬ (m : Int) = 0 := by omega
        have hmb : ((m : Int) == 0) = false := by simpa using hmpn
        have hkb : ((k : Int) == 0) = false := by simpa using hkpn
        go_wp2_with fail
        go_loopw [15, 16] (fun v i wr => ∃ q : Nat, q ≤ M ∧ i = .int .i64 q ∧ Hid (wr.ownsRow w7.heap.size 3 1 v (wnt rs D k b q).length ((wnt rs D k b q).map pv)) ∧ Hid (Below w7.heap.size w7 wr)) (fun _ i _ => M - (intOf i).toNat)
        case atStart => exact ⟨0, Nat.zero_le _, rfl, HR0, zh (Below.refl _ _)⟩
        case round =>
         clear HR0
         obtain ⟨q, hq, rfl, HO, HBQ⟩ := hrel
         obtain ⟨Aw, cw, rfl, hac, hcm⟩ := own_form HO.out
         obtain ⟨mw, hmw⟩ : ∃ mw, mw = (wnt rs D k b q).length := ⟨_, rfl⟩
         have hmq : mw ≤ q := by rw [hmw]; unfold wnt; have := List.length_filter_le (fun q => isQ rs D k q && hsS rs q b) (List.range q); simpa using this
         rw [← hmw] at HO hac ⊢
         have HMW := zh hmw
         have HWS := zh (wnt_succ rs D k b q)
         clear hmw
         generalize wr = wq at *
         have HLN := zh (len_ms wq B mb rs (HM5.out.below (below_tr HB7.out HBQ.out HB7.out.size)))
         rw [← HMM.out] at HLN
         by_cases hlq : q < M
         ·have hqi : (q : Int) < M := by omega
          have hqi0 : (0 : Int) ≤ q := by omega
          have HQA : Hid (∀ i ≤ m, (((psN D k).take i).any fun p => folS rs 0 p q) = true → isQ rs D k q = true) := zh (fun i _ h => by
           unfold isQ
           rw [if_neg (by omega)]
           obtain ⟨p, hp, hf⟩ := List.any_eq_true.1 h
           exact List.any_eq_true.2 ⟨p, List.mem_of_mem_take hp, hf⟩)
          go_wp2_with (first | (go_at_call 17; refine HLN.out.mono ?_; rintro e w8 ⟨rfl, hw8⟩; rw [hw8]; clear hw8))
          go_loopw [17, 18] (fun v i wr => ∃ j : Nat, j ≤ m ∧ i = .int .i64 j ∧ v = .bool (((psN D k).take j).any fun p => folS rs 0 p q) ∧ Hid (Below wq.heap.size wq wr)) (fun _ i _ => m - (intOf i).toNat)
          case atStart => exact ⟨0, Nat.zero_le _, rfl, rfl, zh (Below.refl _ _)⟩
          case round =>
           obtain ⟨j, hj, rfl, rfl, HBW⟩ := hrel
           by_cases hlj : j < m
           ·have hji : (j : Int) < m := by omega
            have hj0 : (0 : Int) ≤ j := by omega
            obtain ⟨p, hp⟩ : ∃ p, (psN D k)[j]? = some p := ⟨_, List.getElem?_eq_getElem (by rw [← HM.out]; exact hlj)⟩
            have HTK : Hid ((((psN D k).take (j + 1)).any fun p => folS rs 0 p q) = ((((psN D k).take j).any fun p => folS rs 0 p q) || folS rs 0 p q)) := zh (by rw [List.take_add_one, hp]; simp)
            have hpc : p < cntS rs := HDS.out.pN k HKD.out p (((psN_mem HDA.out HDS.out HKD.out).1 p).1 (List.mem_of_getElem? hp))
            have HPC := zh hpc
            obtain ⟨gp, rfl, hcp⟩ := ((HNS.out.below HBQ.out).below HBW.out).get hp
            clear hp hpc
            cases hE : ((psN D k).take j).any fun p => folS rs 0 p q with
            | true =>
             rw [hE] at HTK
             go_wp2_with fail
             go_roundw
             case rel => exact ⟨j + 1, by omega, by go_num, by rw [HTK.out]; rfl, HBW⟩
             case measure => simp [intOf]; omega
            | false =>
             rw [hE, Bool.false_or] at HTK
             have HFO := zh (follow_any wr B mb rs (((HM5.out.below (below_tr HB7.out HBQ.out HB7.out.size))).below HBW.out) ((HT5.out.below (below_tr HB7.out HBQ.out HB7.out.size)).below HBW.out) p HPC.out)
             go_wp2_with fail
             refine HFO.out.mono ?_
             rintro e w9 ⟨v9, l, rfl, ho9, hf9, _, hlen9, hb9⟩
             obtain ⟨A9, c9, rfl, _⟩ := own_form ho9
             have HH7 := zh (has7_any w9 A9 l.length c9 q l (own_ns ho9) rfl (by omega))
             have hde : decide (q ∈ l) = folS rs 0 p q := by rw [Bool.eq_iff_iff, decide_eq_true_eq]; exact hf9 q
             rw [hde, ← HTK.out] at HH7
             have HB9 := zh (below_tr HBW.out hb9 HBW.out.size)
             clear ho9 hf9 hb9 hde HFO
             go_wp2_with fail
             refine HH7.out.mono ?_
             rintro e w12 ⟨rfl, hw12⟩
             rw [hw12]
             clear hw12 HH7
             go_wp2_with fail
             go_roundw
             case rel => exact ⟨j + 1, by omega, by go_num, rfl, HB9⟩
             case measure => simp [intOf]; omega
           ·obtain rfl : m = j := by omega
            obtain ⟨β, hβ⟩ : ∃ β, β = isQ rs D k q := ⟨_, rfl⟩
            have he : (((psN D k).take m).any fun p => folS rs 0 p q) = isQ rs D k q := by
             unfold isQ
             rw [if_neg (by omega), List.take_of_length_le (by rw [← HM.out]; exact Nat.le_refl _)]
            rw [he, ← hβ]
            have HQB := zh hβ
            clear he hβ
            have HHY := zh (has_yes wr B mb rs ((HM5.out.below (below_tr HB7.out HBQ.out HB7.out.size)).below HBW.out) q (by rw [← HMM.out]; exact hlq) b)
            cases β with
            | true =>
             obtain ⟨γ, hγ⟩ : ∃ γ, γ = hsS rs q b := ⟨_, rfl⟩
             rw [← hγ] at HHY
             have HGE := zh hγ
             clear hγ
             cases γ with
             | true =>
              have HYES : Hid ((isQ rs D k q && hsS rs q b) = true) := zh (by rw [← HQB.out, ← HGE.out]; rfl)
              go_upto_region 29 with (first | (go_at_call 22; refine HHY.out.mono ?_; rintro e w11 ⟨rfl, hw11⟩; rw [hw11]; clear hw11))
              have HOR := zh (own_keep' HO.out (Kb.of_below (fun _ => False) HBW.out) (fun _ _ x => x))
              have hsz0 : w7.heap.size ≤ wr.heap.size := Nat.le_trans HBQ.out.size HBW.out.size
              go_wp2_with (at_builtin; refine wpList_append_lies _ rfl _ _ 32 rfl w7.heap.size 3 i0 _ 1 8 Tryz.underlying32 HI.out HZ0.out HZ1.out HZ2.out rfl (by omega) (.slice Aw mw cw) mw _ rfl (HOR.out.alloc _) ⟨wr.heap.size, 0, none⟩ 1 1 [.int .i64 q] rfl rfl (World.news_of_block (cs := #[.int .i64 q]) (t := 3) (fr := (0, 0)) (heap_alloc_new wr _)) (by simp [Value.oneCell']) (by omega) (by unfold maxLen; omega) (by omega) (by simp; omega) (wr.heap.size + 1) (by simp) ?_; intro gg cap6 w10 hown6 hgrow6 hat6 hlt6; have hg6 := grown_kb hgrow6; have HB10 := zh (HBQ.out.trans ((HBW.out.mono HBQ.out.size).trans (hg6.below hsz0 (fun i e => (own_ty HOR.out e.symm).1)))); have HO10 := zh hown6; clear hg6 hown6 hgrow6 hat6 hlt6)
              refine ⟨⟨q + 1, by omega, by go_num, ?_, HB10⟩, ?_⟩
              ·rw [HWS.out, if_pos HYES.out, List.length_append, List.length_singleton, List.map_append, ← HMW.out]
               exact HO10
              ·simp [intOf]; omega
             | false =>
              have HNO : Hid (¬ (isQ rs D k q && hsS rs q b) = true) := zh (by rw [← HQB.out, ← HGE.out]; simp)
              go_wp2_with (first | (go_at_call 22; refine HHY.out.mono ?_; rintro e w11 ⟨rfl, hw11⟩; rw [hw11]; clear hw11))
              have HBZ := zh (HBQ.out.trans (HBW.out.mono HBQ.out.size))
              have HOR := zh (own_keep' HO.out (Kb.of_below (fun _ => False) HBW.out) (fun _ _ x => x))
              refine ⟨⟨q + 1, by omega, by go_num, ?_, HBZ⟩, ?_⟩
              ·rw [HWS.out, if_neg HNO.out, List.append_nil, ← HMW.out]
               exact HOR
              ·simp [intOf]; omega
            | false =>
             have HNO : Hid (¬ (isQ rs D k q && hsS rs q b) = true) := zh (by rw [← HQB.out]; simp)
             go_wp2_with fail
             have HBZ := zh (HBQ.out.trans (HBW.out.mono HBQ.out.size))
             have HOR := zh (own_keep' HO.out (Kb.of_below (fun _ => False) HBW.out) (fun _ _ x => x))
             refine ⟨⟨q + 1, by omega, by go_num, ?_, HBZ⟩, ?_⟩
             ·rw [HWS.out, if_neg HNO.out, List.append_nil, ← HMW.out]
              exact HOR
             ·simp [intOf]; omega
         ·obtain rfl : M = q := by omega
          have HSTP := zh (wnt_step HDA.out HDS.out HKD.out b)
          rw [← HMM.out] at HSTP
          have HBX := zh (below_tr HB7.out HBQ.out HB7.out.size)
          have HNX := zh (next_df wq d gs ga gn cs ca cn k D b (HDA.out.below HBX.out) HKD.out)
          have HNSQ := zh (HNS.out.below HBQ.out)
          have hcont : ∀ (wz : World), Below wq.heap.size wq wz → Below w5.heap.size w5 wz := fun wz hz => below_tr HBX.out hz HBX.out.size
          have HCONT := zh hcont
          clear hcont
          rcases HSTP.out with ⟨hn1, hn2⟩ | ⟨kk, hn1, hn2, hn3, hn4, hn5⟩
          ·rw [hn1] at HNX
           have hmw0 : mw = 0 := by rw [HMW.out, hn2]; rfl
           subst hmw0
           unfold nxA at HNX
           clear hn1 hn2 HSTP
           go_wp2_with (first | (go_at_call 17; refine HLN.out.mono ?_; rintro e w8 ⟨rfl, hw8⟩; rw [hw8]; clear hw8))
           refine HNX.out.mono ?_
           rintro e wy ⟨rfl, hby⟩
           have HBY := zh hby
           clear hby HNX HO
           go_wp2_with fail
           go_loopw [12, 21] (fun v i wr => ∃ c t : Nat, c ≤ 256 ∧ t ≤ 2000 ∧ i = .int .i64 c ∧ v = .int .i64 t ∧ Hid (t = tp k c) ∧ Hid (Below wy.heap.size wy wr)) (fun _ i _ => 256 - (intOf i).toNat)
           case atStart => exact ⟨0, t, by omega, ht2, rfl, rfl, HTE, zh (Below.refl _ _)⟩
           case round =>
            obtain ⟨c', t', hc', ht', rfl, rfl, HTE', HB'⟩ := hrel
            have HBC := zh (HCONT.out wr (below_tr HBY.out HB'.out HBY.out.size))
            by_cases hlc : c' < 256
            ·have hci : (c' : Int) < 256 := by omega
             have hci0 : (0 : Int) ≤ c' := by omega
             have hcb : (UInt8.ofNat c').toNat = c' := by simp; omega
             have HNC := zh (next_df wr d gs ga gn cs ca cn k D (UInt8.ofNat c') (HDA.out.below HBC.out) HKD.out)
             rw [hcb] at HNC
             have ho := HORD.out k HKD.out c' hlc
             rw [← HTE'.out] at ho
             obtain ⟨o, hoo⟩ : ∃ o, o = D.nx k (D.cl c') := ⟨_, rfl⟩
             have hok : ∀ q, o = some q → q < D.N := fun q hq => HDS.out.ok k _ q HKD.out (by rw [← hoo]; exact hq)
             rw [← hoo] at HNC ho
             clear hoo hcb
             cases o with
             | none =>
              have HO1 := zh (ho.1 rfl)
              unfold nxA at HNC
              clear ho hok
              go_wp2_with fail
              refine HNC.out.mono ?_
              rintro e wz ⟨rfl, hbz⟩
              have HBZ' := zh (below_tr HB'.out hbz HB'.out.size)
              clear hbz HNC
              go_wp2_with fail
              go_roundw
              case rel => exact ⟨c' + 1, t', by omega, ht', by go_num, rfl, zh (by rw [HO1.out]), HBZ'⟩
              case measure => simp [intOf]; omega
             | some kz =>
              obtain ⟨ho1, ho2⟩ := ho.2 kz rfl
              have hkz := hok kz rfl
              rw [← HN.out] at hkz
              have HO2 := zh ho2
              have hgt : ¬ (t' : Int) + 1 < kz := by omega
              unfold nxA at HNC
              clear ho hok ho2
              go_wp2_with fail
              refine HNC.out.mono ?_
              rintro e wz ⟨rfl, hbz⟩
              have HBZ' := zh (below_tr HB'.out hbz HB'.out.size)
              clear hbz HNC
              go_wp2_with fail
              go_roundw
              case rel => exact ⟨c' + 1, max t' kz, by omega, by omega, by go_num, by congr 1; omega, zh (by rw [HO2.out]), HBZ'⟩
              case measure => simp [intOf]; omega
            ·have hce : c' = 256 := by omega
             have hci : ¬ (c' : Int) < 256 := by omega
             have htn := (HTE'.out.trans (by rw [hce])).trans (TPS.out k HKD.out)
             have HTN := zh htn
             have HNSR := zh ((HNSQ.out.below HBY.out).below HB'.out)
             clear htn
             generalize wr = wg at *
             go_wp2_with fail
             go_loopw [24] (fun i wr => ∃ j : Nat, 1 ≤ j ∧ i = .int .i64 j ∧ Hid (Below wg.heap.size wg wr)) (fun i _ => k - (intOf i).toNat)
             case atStart => exact ⟨1, Nat.le_refl _, rfl, zh (Below.refl _ _)⟩
             case round =>
              obtain ⟨j, hj1, rfl, HBJ⟩ := hrel
              have HBCJ := zh (below_tr HBC.out HBJ.out HBC.out.size)
              by_cases hljk : j < k
              ·have hjki : (j : Int) < k := by omega
               have HPJ := zh (pos7_any wr d gs ga gn cs ca cn j rs D (HDA.out.below HBCJ.out) HDS.out (Nat.lt_trans hljk HKD.out) (HT5.out.below HBCJ.out) (by rw [← HMM.out]; exact hc2))
               have HNEQ := zh (psN_ne HDA.out HDS.out (show 0 < j by omega) hljk HKD.out)
               have hl2 := psN_len HDA.out HDS.out (Nat.lt_trans hljk HKD.out) (by rw [← HMM.out]; exact hc2)
               go_wp2_with fail
               refine HPJ.out.mono ?_
               rintro e wj ⟨A4, m4, c4, rfl, hm4, hns4, hb4'⟩
               have HBJ2 := zh (below_tr HBJ.out hb4' HBJ.out.size)
               have HSMJ := zh (same7_any wj A4 AP m4 m c4 cp (psN D j) (psN D k) hns4 ((HNSR.out.below HBJ.out).below hb4') hm4.symm HM.out.symm (by omega))
               rw [decide_eq_false HNEQ.out] at HSMJ
               clear hm4 hns4 hb4' HPJ
               go_wp2_with fail
               refine HSMJ.out.mono ?_
               rintro e wk ⟨rfl, hbk⟩
               have HBJ3 := zh (below_tr HBJ2.out hbk HBJ2.out.size)
               clear hbk HSMJ
               go_wp2_with fail
               go_roundw
               case rel => exact ⟨j + 1, by omega, by go_num, HBJ3⟩
               case measure => simp [intOf]; omega
              ·have hjki : ¬ (j : Int) < (k : Nat) := by omega
               go_wp2_with fail
               refine ⟨⟨k + 1, t', by omega, ht', by go_num, rfl, HTN, HBCJ⟩, ?_⟩
               simp [intOf]; omega
          ·rw [hn1] at HNX
           have hmwp : 0 < mw := by rw [HMW.out, hn4]; exact hn5
           have hmwi : (0 : Int) < mw := by omega
           have hkk0 : ¬ (kk : Int) = 0 := by omega
           have HN4 := zh hn4
           unfold nxA at HNX
           have HN3 := zh hn3
           clear hn1 hn2 hn3 hn4 hn5 HSTP
           go_wp2_with (first | (go_at_call 17; refine HLN.out.mono ?_; rintro e w8 ⟨rfl, hw8⟩; rw [hw8]; clear hw8))
           refine HNX.out.mono ?_
           rintro e wx ⟨rfl, hbx⟩
           have HBX2 := zh hbx
           have HPO2 := zh (pos7_any wx d gs ga gn cs ca cn kk rs D (HDA.out.below (HCONT.out wx hbx)) HDS.out HN3.out (HT5.out.below (HCONT.out wx hbx)) (by rw [← HMM.out]; exact hc2))
           clear hbx HNX
           go_wp2_with fail
           refine HPO2.out.mono ?_
           rintro e wy0 ⟨A3, m3, c3, rfl, hm3, hns3, hb3'⟩
           have HBY0 := zh (below_tr HBX2.out hb3' HBX2.out.size)
           have hwl : (psN D kk).length = mw := by rw [← HN4.out]; exact HMW.out.symm
           have hm3w : m3 = mw := hm3.trans hwl
           subst hm3w
           have hm2000 := psN_len HDA.out HDS.out HN3.out (by rw [← HMM.out]; exact hc2)
           have HSM := zh (same7_any wy0 A3 Aw m3 m3 c3 cw (psN D kk) (psN D kk) hns3 (by
            have h1 := (own_ns HO.out).below HBY0.out
            rw [← HN4.out]; exact h1) hwl hwl (by omega))
           rw [decide_eq_true rfl] at HSM
           clear hm3 hns3 hb3' hwl hm2000 HPO2
           go_wp2_with fail
           refine HSM.out.mono ?_
           rintro e wy ⟨rfl, hby⟩
           have HBY := zh (below_tr HBY0.out hby HBY0.out.size)
           clear hby HSM HO
           go_wp2_with fail
           go_loopw [12, 21] (fun v i wr => ∃ c t : Nat, c ≤ 256 ∧ t ≤ 2000 ∧ i = .int .i64 c ∧ v = .int .i64 t ∧ Hid (t = tp k c) ∧ Hid (Below wy.heap.size wy wr)) (fun _ i _ => 256 - (intOf i).toNat)
           case atStart => exact ⟨0, t, by omega, ht2, rfl, rfl, HTE, zh (Below.refl _ _)⟩
           case round =>
            obtain ⟨c', t', hc', ht', rfl, rfl, HTE', HB'⟩ := hrel
            have HBC := zh (HCONT.out wr (below_tr HBY.out HB'.out HBY.out.size))
            by_cases hlc : c' < 256
            ·have hci : (c' : Int) < 256 := by omega
             have hci0 : (0 : Int) ≤ c' := by omega
             have hcb : (UInt8.ofNat c').toNat = c' := by simp; omega
             have HNC := zh (next_df wr d gs ga gn cs ca cn k D (UInt8.ofNat c') (HDA.out.below HBC.out) HKD.out)
             rw [hcb] at HNC
             have ho := HORD.out k HKD.out c' hlc
             rw [← HTE'.out] at ho
             obtain ⟨o, hoo⟩ : ∃ o, o = D.nx k (D.cl c') := ⟨_, rfl⟩
             have hok : ∀ q, o = some q → q < D.N := fun q hq => HDS.out.ok k _ q HKD.out (by rw [← hoo]; exact hq)
             rw [← hoo] at HNC ho
             clear hoo hcb
             cases o with
             | none =>
              have HO1 := zh (ho.1 rfl)
              unfold nxA at HNC
              clear ho hok
              go_wp2_with fail
              refine HNC.out.mono ?_
              rintro e wz ⟨rfl, hbz⟩
              have HBZ' := zh (below_tr HB'.out hbz HB'.out.size)
              clear hbz HNC
              go_wp2_with fail
              go_roundw
              case rel => exact ⟨c' + 1, t', by omega, ht', by go_num, rfl, zh (by rw [HO1.out]), HBZ'⟩
              case measure => simp [intOf]; omega
             | some kz =>
              obtain ⟨ho1, ho2⟩ := ho.2 kz rfl
              have hkz := hok kz rfl
              rw [← HN.out] at hkz
              have HO2 := zh ho2
              have hgt : ¬ (t' : Int) + 1 < kz := by omega
              unfold nxA at HNC
              clear ho hok ho2
              go_wp2_with fail
              refine HNC.out.mono ?_
              rintro e wz ⟨rfl, hbz⟩
              have HBZ' := zh (below_tr HB'.out hbz HB'.out.size)
              clear hbz HNC
              go_wp2_with fail
              go_roundw
              case rel => exact ⟨c' + 1, max t' kz, by omega, by omega, by go_num, by congr 1; omega, zh (by rw [HO2.out]), HBZ'⟩
              case measure => simp [intOf]; omega
            ·have hce : c' = 256 := by omega
             have hci : ¬ (c' : Int) < 256 := by omega
             have htn := (HTE'.out.trans (by rw [hce])).trans (TPS.out k HKD.out)
             have HTN := zh htn
             have HNSR := zh ((HNSQ.out.below HBY.out).below HB'.out)
             clear htn
             generalize wr = wg at *
             go_wp2_with fail
             go_loopw [24] (fun i wr => ∃ j : Nat, 1 ≤ j ∧ i = .int .i64 j ∧ Hid (Below wg.heap.size wg wr)) (fun i _ => k - (intOf i).toNat)
             case atStart => exact ⟨1, Nat.le_refl _, rfl, zh (Below.refl _ _)⟩
             case round =>
              obtain ⟨j, hj1, rfl, HBJ⟩ := hrel
              have HBCJ := zh (below_tr HBC.out HBJ.out HBC.out.size)
              by_cases hljk : j < k
              ·have hjki : (j : Int) < k := by omega
               have HPJ := zh (pos7_any wr d gs ga gn cs ca cn j rs D (HDA.out.below HBCJ.out) HDS.out (Nat.lt_trans hljk HKD.out) (HT5.out.below HBCJ.out) (by rw [← HMM.out]; exact hc2))
               have HNEQ := zh (psN_ne HDA.out HDS.out (show 0 < j by omega) hljk HKD.out)
               have hl2 := psN_len HDA.out HDS.out (Nat.lt_trans hljk HKD.out) (by rw [← HMM.out]; exact hc2)
               go_wp2_with fail
               refine HPJ.out.mono ?_
               rintro e wj ⟨A4, m4, c4, rfl, hm4, hns4, hb4'⟩
               have HBJ2 := zh (below_tr HBJ.out hb4' HBJ.out.size)
               have HSMJ := zh (same7_any wj A4 AP m4 m c4 cp (psN D j) (psN D k) hns4 ((HNSR.out.below HBJ.out).below hb4') hm4.symm HM.out.symm (by omega))
               rw [decide_eq_false HNEQ.out] at HSMJ
               clear hm4 hns4 hb4' HPJ
               go_wp2_with fail
               refine HSMJ.out.mono ?_
               rintro e wk ⟨rfl, hbk⟩
               have HBJ3 := zh (below_tr HBJ2.out hbk HBJ2.out.size)
               clear hbk HSMJ
               go_wp2_with fail
               go_roundw
               case rel => exact ⟨j + 1, by omega, by go_num, HBJ3⟩
               case measure => simp [intOf]; omega
              ·have hjki : ¬ (j : Int) < (k : Nat) := by omega
               go_wp2_with fail
               refine ⟨⟨k + 1, t', by omega, ht', by go_num, rfl, HTN, HBCJ⟩, ?_⟩
               simp [intOf]; omega
      ·obtain rfl : k = N := by omega
       have hfin := TPN.out
       rw [← HN.out, ← HTE.out] at hfin
       have hti : (t : Int) = (k : Int) - 1 := by omega
       have HST2 := zh HST.out
       go_wp2_with (first | (go_at_call 31; refine HST.out.mono ?_; rintro e w6 ⟨rfl, hw6⟩; rw [hw6]; clear hw6))
       go_ret
       exact ⟨rfl, below_tr HB5.out HB.out HB5.out.size⟩
 ·have hzi : (0 : Int) < x := by omega
  go_wp2_with (first | (go_at_call 26; refine HAW.out.mono ?_; rintro e w2 ⟨rfl, hba⟩))
  go_ret
  exact ⟨rfl, hba⟩
end Go.Proofs.YtejdfpieblkapaaGreatDoor
