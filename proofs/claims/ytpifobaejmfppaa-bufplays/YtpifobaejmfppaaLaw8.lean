/- The law BufPlays. -/
import Derived.Test.YtpifobaejmfppaaN23
namespace Go.Proofs.Ytpifobaejmfppaa
open Go.RowKit

set_option maxRecDepth 100000 in
set_option maxHeartbeats 8000000 in
theorem law_plays (s : ByteArray) (A : Option Addr) (len cap : Nat) (l : List Ac) (w : World) (hlen : l.length = len) (hl : len ≤ cap) (hcap : cap ≤ 9223372036854775807) (hE : AcsAt w w.heap.size A l) :
    Calls Try.prog 8 #[.string s, .slice A len cap] w (Fine w) := by
  by_cases h3 : 300 < s.size
  · have q1 : decide ((300 : Int) < (s.size : Int)) = true := by simp; omega
    go_enter Try.func8, Try.ntmps8
    go_wp2_with fail
    refine (awake2 w).mono ?_
    rintro e w1 ⟨rfl, hb1⟩
    go_wp2
    go_ret
    exact ⟨rfl, hb1⟩
  · have q1 : decide ((300 : Int) < (s.size : Int)) = false := by simp; omega
    have HG := Lib.hid (great2_any A len cap l w hlen hl hcap hE)
    have HL := Lib.hid hlen
    clear hlen
    cases hg : greatA l with
    | true =>
      have HGB := Lib.hid hg; clear hg
      go_enter Try.func8, Try.ntmps8
      go_wp2_with fail
      refine HG.out.mono ?_
      rintro e w1 ⟨rfl, rfl⟩
      rw [HGB.out]
      go_wp2_with fail
      refine (awake2 w).mono ?_
      rintro e w1 ⟨rfl, hb1⟩
      go_wp2
      go_ret
      exact ⟨rfl, hb1⟩
    | false =>
      have HGB := Lib.hid hg
      obtain ⟨hl60, hsm⟩ := great_no hg
      rw [HL.out] at hl60
      have HSM := Lib.hid hsm
      clear hg hsm
      go_enter Try.func8, Try.ntmps8
      go_wp2_with fail
      refine HG.out.mono ?_
      rintro e w1 ⟨rfl, rfl⟩
      rw [HGB.out]
      clear HG HGB
      go_wp2_with fail
      refine (awake2 w).mono ?_
      rintro e w1 ⟨rfl, hb1⟩
      go_wp2_with fail
      refine (new_any s w1 (by omega)).mono ?_
      rintro e w2 ⟨Bf, A2, c2, L2, rfl, ht2, hb2, hL2, hB2⟩
      have hsz : s.data.toList.length = s.size := (Lib.size_eq s).symm
      have HA2 := Lib.hid (new_his ht2 hb2 hB2 (by omega))
      have hb12 := below_tr hb1 hb2 hb1.size
      have hz1 := hb1.size
      have hz2 := hb2.size
      clear ht2 hb2 hb1
      go_wp2_with fail
      go_loopw [7, 8, 9, 10, 11] (fun vp vf nw mo i wr => ∃ (k m : Nat) (T : List UInt8) (Ap : Option Addr) (np cp : Nat) (Af : Option Addr) (nf cf : Nat) (P F : Value) (made n : Nat) (ps fs : List St), k ≤ len ∧ i = .int .i64 k ∧ mo = .int .i64 m ∧ nw = .string ⟨T.toArray⟩ ∧ vp = .slice Ap np cp ∧ vf = .slice Af nf cf ∧ Hid (Pl wr w1.heap.size Bf k m T Ap np cp Af nf cf P F made n ps fs) ∧ Below w.heap.size w wr) (fun _ _ _ _ i _ => len - (intOf i).toNat)
      case atStart =>
        refine ⟨0, 1, s.data.toList, some ⟨w2.heap.size, 0, none⟩, 0, 0, some ⟨w2.heap.size + 1, 0, none⟩, 0, 0, .slice none 0 0, .slice none 0 0, 0, L2.length, [], [], Nat.zero_le _, rfl, rfl, rfl, rfl, rfl, ?_, ?_⟩
        · exact Pl.mk (HA2.out.below (((Below.refl _ w2).alloc (Nat.le_refl _) _).alloc (by simp) _)) ⟨by omega, by simp, by simp, by omega, by simp⟩ (RdS.empty _ _ _ (by omega)) (RdS.empty _ _ _ (by omega)) (by omega) (by omega) (by omega)
        · exact (hb12.alloc (by omega) _).alloc (by simp; omega) _
      case round =>
        clear HA2 hb12
        obtain ⟨k, m, T, Ap, np, cp, Af, nf, cf, P, F, made, n, ps, fs, hk, rfl, rfl, rfl, rfl, rfl, HPl, hb⟩ := hrel
        obtain ⟨S, hS⟩ : ∃ S, S = (⟨T.toArray⟩ : ByteArray) := ⟨_, rfl⟩
        have HSD := Lib.hid (show S.data.toList = T by rw [hS])
        have HSZ := Lib.hid (show T.length = S.size by rw [hS]; simp [ByteArray.size])
        have hTs : S.size ≤ 300 + 3000 * k := by rw [← HSZ.out]; exact HPl.out.b.t
        have hm3 := HPl.out.m3
        rw [← hS]
        have HS := Lib.hid hS; clear hS
        by_cases hlt : k < len
        · obtain ⟨a, ha⟩ := get_some l k (by rw [HL.out]; exact hlt)
          obtain ⟨hs100, hgl⟩ := HSM.out a (List.mem_of_getElem? ha)
          obtain ⟨ad, rfl, hab, c0, c1, c2, c3, c4, r1, r2, r3, r4⟩ := (hE.below hb) k a ha
          have R1 := Lib.hid r1; have R4 := Lib.hid r4; have HGL := Lib.hid hgl
          clear ha r1 r4 hgl
          by_cases h0 : a.k = 0
          · as_aux_lemma =>
              rw [h0] at c0
              clear h0

              have HPx := Lib.hid (HPl.out.below ((Below.refl _ wr).alloc (Nat.le_refl _) (.cells #[.int .i64 0, .int .i64 a.f, .int .i64 a.t, .string a.s, .slice a.A a.len a.cap] 52)))
              have hbx := hb.alloc hb.size (.cells #[.int .i64 0, .int .i64 a.f, .int .i64 a.t, .string a.s, .slice a.A a.len a.cap] 52)
              have HC0 := Lib.hid (heap_alloc_new wr (.cells #[.int .i64 0, .int .i64 a.f, .int .i64 a.t, .string a.s, .slice a.A a.len a.cap] 52))
              clear HPl

              have HST0 := Lib.hid (show StepV ((wr.alloc (.cells #[.int .i64 0, .int .i64 a.f, .int .i64 a.t, .string a.s, .slice a.A a.len a.cap] 52)).alloc (.cells #[.int .i64 a.f, .int .i64 a.t, .string a.s] 35)) (.slice (some ⟨wr.heap.size + 1, 0, none⟩) 1 1) [⟨a.f, a.t, a.s⟩] by have := step_one (wr.alloc (.cells #[.int .i64 0, .int .i64 a.f, .int .i64 a.t, .string a.s, .slice a.A a.len a.cap] 52)) a.f a.t a.s; rwa [World.size_alloc] at this)
              have hal := (Below.refl _ (wr.alloc (.cells #[.int .i64 0, .int .i64 a.f, .int .i64 a.t, .string a.s, .slice a.A a.len a.cap] 52))).alloc (Nat.le_refl _) (.cells #[.int .i64 a.f, .int .i64 a.t, .string a.s] 35)
              have HPy := Lib.hid (HPx.out.below hal)
              have hby := below_tr hbx hal hbx.size
              have HCy := Lib.hid ((hal.block _ (lt_of_heap HC0.out)).trans HC0.out)
              obtain ⟨hl6, hd1, hd2, hE6⟩ := HST0.out.eds
              have HE0 := Lib.hid hE6
              clear hl6 hE6 hal HPx hbx HC0
              have hlen30 : (1 : Nat) ≤ 30 := by omega
              have HTOT := Lib.hid (show tot [(⟨a.f, a.t, a.s⟩ : Ed)] ≤ 3000 by simp [tot]; omega)
              have HLN := Lib.hid (show [(⟨a.f, a.t, a.s⟩ : Ed)].length = 1 from rfl)

              have hTl : S.size + 3000 ≤ 1048576 := by omega
              have hml := HPy.out.b.m
              have hpl := HPy.out.b.p
              have hnp := HPy.out.np
              have hnn : np ≤ k := by omega
              cases hR : rightB 0 S.size [(⟨a.f, a.t, a.s⟩ : Ed)] with
              | false =>
                as_aux_lemma =>
                have HR := Lib.hid hR; clear hR
                go_wp2_with fail
                refine (rright_any S.size (some ⟨wr.heap.size + 1, 0, none⟩) 1 1 [(⟨a.f, a.t, a.s⟩ : Ed)] _ HLN.out hd1 hd2 HE0.out).mono ?_
                rintro e w4 ⟨rfl, hb4⟩
                rw [HR.out]
                have HP4 := Lib.hid (HPy.out.below hb4)
                have hbl4 := below_tr hby hb4 hby.size
                have HC4 := Lib.hid ((hb4.block _ (lt_of_heap HCy.out)).trans HCy.out)
                have HE4 := Lib.hid ((HE0.out.below hb4).more hb4.size)
                have d0 : w4.cell? ⟨wr.heap.size, 0, none⟩ = some (.int .i64 0) := by rw [Lib.cell_of_heap HC4.out]; rfl
                have d1 : w4.cell? ⟨wr.heap.size, 1, none⟩ = some (.int .i64 a.f) := by rw [Lib.cell_of_heap HC4.out]; rfl
                have d2 : w4.cell? ⟨wr.heap.size, 2, none⟩ = some (.int .i64 a.t) := by rw [Lib.cell_of_heap HC4.out]; rfl
                have d3 : w4.cell? ⟨wr.heap.size, 3, none⟩ = some (.string a.s) := by rw [Lib.cell_of_heap HC4.out]; rfl
                clear HPy hby HCy HE0 hb4 HC4
                go_wp2_with fail

                refine (splice_no _ _ _ _ _ _ _ _ _ _ _ _ _ HP4.out.h (by rw [HSZ.out]; exact HR.out)).mono ?_

                rintro e w5 ⟨rfl, hb5⟩
                have HP5 := Lib.hid ((HP4.out.below hb5).more (k' := k + 1) (by omega))
                have hbl5 := below_tr hbl4 hb5 hbl4.size
                clear HP4 hbl4 hb5 d0 d1 d2 d3
                obtain ⟨hnp5, hnf5⟩ := HP5.out.np
                have hmx1 := HP5.out.m1
                obtain ⟨mx, hmx⟩ : ∃ mx, mx = max 1 n := ⟨_, rfl⟩
                have hmx0 : 1 ≤ mx := by omega
                rw [← hmx] at hmx1
                have HMX := Lib.hid hmx; clear hmx
                have HNP := Lib.hid hnp5; have HNF := Lib.hid hnf5
                clear hnp5 hnf5

                go_wp2_with fail
                refine (his_text _ _ _ _ _ _ _ _ _ _ HP5.out.h).mono ?_
                rintro e w6 ⟨rfl, hb6⟩
                rw [← HS.out]
                have HP6 := Lib.hid (HP5.out.below hb6)
                have hbl6 := below_tr hbl5 hb6 hbl5.size
                clear HP5 hbl5 hb6
                go_wp2_with fail
                refine (his_len HP6.out.h).mono ?_
                rintro e w7 ⟨rfl, rfl⟩
                rw [HSZ.out]
                go_wp2_with fail
                refine (his_past HP6.out.h).mono ?_
                rintro e w8 ⟨rfl, rfl⟩
                rw [HNP.out]
                go_wp2_with fail
                refine (his_future HP6.out.h).mono ?_
                rintro e w9 ⟨rfl, rfl⟩
                rw [HNF.out]
                have qm1 : decide ((mx : Int) < 1) = false := decide_eq_false (by omega)
                have qm2 : decide ((m : Int) < (mx : Int)) = false := decide_eq_false (by omega)
                go_wp2_with fail
                refine (his_pieces HP6.out.h).mono ?_
                rintro e w10 ⟨rfl, rfl⟩
                rw [← HMX.out]
                go_wp2_with fail
                refine (his_pieces HP6.out.h).mono ?_
                rintro e w11 ⟨rfl, rfl⟩
                rw [← HMX.out]
                go_wp2
                go_roundw
                case rel => exact ⟨k + 1, m, T, Ap, np, cp, Af, nf, cf, P, F, made, n, ps, fs, by omega, by go_num, congrArg _ (by omega), congrArg _ HS.out, rfl, rfl, HP6.out, hbl6⟩
                case measure => simp [intOf]; omega

              | true =>
                as_aux_lemma =>
                have HR := Lib.hid hR; clear hR
                have hRT : rightB 0 T.length [(⟨a.f, a.t, a.s⟩ : Ed)] = true := by rw [HSZ.out]; exact HR.out
                have halen := appl_tot_le T [(⟨a.f, a.t, a.s⟩ : Ed)] hRT
                rw [HSZ.out] at halen
                have htt := HTOT.out
                have hA48 : (appl T 0 [(⟨a.f, a.t, a.s⟩ : Ed)]).length ≤ 1048576 := by omega
                have hA30 : (appl T 0 [(⟨a.f, a.t, a.s⟩ : Ed)]).length ≤ T.length + 3000 := by rw [HSZ.out]; omega
                have HRT := Lib.hid hRT; have HA48 := Lib.hid hA48; have HA30 := Lib.hid hA30
                clear hRT hA48 hA30 halen htt
                go_wp2_with fail
                refine (rright_any S.size (some ⟨wr.heap.size + 1, 0, none⟩) 1 1 [(⟨a.f, a.t, a.s⟩ : Ed)] _ HLN.out hd1 hd2 HE0.out).mono ?_
                rintro e w3 ⟨rfl, hb3⟩
                rw [HR.out]
                have HP3 := Lib.hid (HPy.out.below hb3)
                have hbl3 := below_tr hby hb3 hby.size
                have HC3 := Lib.hid ((hb3.block _ (lt_of_heap HCy.out)).trans HCy.out)
                have HE3 := Lib.hid ((HE0.out.below hb3).more hb3.size)
                have d0 : w3.cell? ⟨wr.heap.size, 0, none⟩ = some (.int .i64 0) := by rw [Lib.cell_of_heap HC3.out]; rfl
                have d1 : w3.cell? ⟨wr.heap.size, 1, none⟩ = some (.int .i64 a.f) := by rw [Lib.cell_of_heap HC3.out]; rfl
                have d2 : w3.cell? ⟨wr.heap.size, 2, none⟩ = some (.int .i64 a.t) := by rw [Lib.cell_of_heap HC3.out]; rfl
                have d3 : w3.cell? ⟨wr.heap.size, 3, none⟩ = some (.string a.s) := by rw [Lib.cell_of_heap HC3.out]; rfl
                have hzw3 : wr.heap.size ≤ w3.heap.size := by have := hb3.size; simp at this; omega
                have hR1 := R1.out
                have hm2 := HPy.out.m2

                have HST3 := Lib.hid (HST0.out.kt (kt_below hb3))

                clear HPy hby HCy HE0 hb3 HC3
                go_wp2_with fail

                refine (splice_ok _ _ _ _ _ _ _ _ _ _ _ _ _ HP3.out.h HRT.out (by omega) HA48.out (by omega) (by omega)).mono ?_

                rintro e w4 ⟨rfl, P4, hbk⟩
                have hbN := hbk.below HP3.out.h
                have hzw4 : wr.heap.size ≤ w4.heap.size := by have := hbN.size; omega
                have hbl4 := below_tr hbl3 hbN hz1
                obtain ⟨n4, hh4, hn4, hkb4, _⟩ := hbk
                have hkt4 := HP3.out.h.kt hkb4
                have HH4 := Lib.hid hh4
                have HO4 := Lib.hid (HP3.out.p.kt hkt4)
                have HBD := Lib.hid HP3.out.b

                have HST4 := Lib.hid (HST3.out.kt hkt4)

                clear hh4 hkb4 hkt4 hbN HP3 hbl3 d1 d2 d3
                have HD4 := Lib.hid (kt_below ((Below.refl _ w4).alloc (Nat.le_refl _) (.cells #[] 9)))
                go_wp2_with (at_builtin; refine wpList_app_rd rfl _ _ rfl w4.heap.size (.slice (some ⟨w4.heap.size, 0, none⟩) 0 0) 0 [] rfl (own_empty w4) Ap np cp (strs ps) rfl (HO4.out.kt HD4.out) (by omega) (by simp) ?_)
                intro v5 w5 hown5 hg5
                obtain ⟨A5, c5, rfl⟩ := own_form hown5
                try rw [Nat.zero_add, List.nil_append] at hown5
                try rw [Nat.zero_add]
                have hb45 : Below w4.heap.size w4 w5 := ((Below.refl _ w4).alloc (Nat.le_refl _) _).grown hg5 (by simp) (fun g hg => by simp [Value.ownBlock] at hg; omega)
                have HO5 := Lib.hid hown5
                have HB45 := Lib.hid hb45
                have hz45 := hb45.size
                clear hown5 hg5 hb45 HD4
                go_wp2_with (at_builtin; refine wpList_app_rd rfl _ _ rfl w4.heap.size (.slice A5 np c5) np _ rfl (HO5.out.alloc _) (some ⟨w5.heap.size, 0, none⟩) 1 1 [S] rfl (RdS.one w5 S) (by omega) (by simp; omega) ?_)
                intro v6 w6 hown6 hg6
                obtain ⟨A6, c6, rfl⟩ := own_form hown6
                have hb46 : Below w4.heap.size w4 w6 := (HB45.out.alloc hz45 _).grown hg6 (by simp; omega) (fun g hg => (HO5.out.lt g hg).1)
                have HR6 := Lib.hid (show RdS w6 A6 (np + 1) c6 ((strs ps) ++ [S]) from RdS.own (by rw [List.map_append]; exact hown6))
                have HB46 := Lib.hid hb46
                have hz46 := hb46.size
                clear hown6 hg6 hb46 HO5 HB45

                have p3 : IntKind.i64.wrap (2 * (1 : Int)) = 2 * (1 : Int) := IntWalk.i64_in _ (by omega)
                have p4 : IntKind.i64.wrap ((m : Int) + 2 * (1 : Int)) = (m : Int) + 2 * (1 : Int) := IntWalk.i64_in _ (by omega)

                obtain ⟨hl6, _, _, hE6⟩ := (HST4.out.kt (kt_below HB46.out)).eds
                have HE6 := Lib.hid hE6
                clear hl6 hE6

                go_wp2_with fail
                refine (rapply_any S (some ⟨wr.heap.size + 1, 0, none⟩) 1 1 [(⟨a.f, a.t, a.s⟩ : Ed)] w6 HLN.out hd1 hd2 HE6.out HR.out (by have := HTOT.out; omega)).mono ?_
                rintro e w8 ⟨rfl, hb8⟩
                rw [HSD.out]
                have hb48 := HB46.out.trans (hb8.mono hz46)
                have hbl5 := below_tr hbl4 hb48 hbl4.size
                have HP5 := Lib.hid (show Pl w8 w1.heap.size Bf (k + 1) (m + 2 * 1) (appl T 0 [(⟨a.f, a.t, a.s⟩ : Ed)]) A6 (np + 1) c6 none 0 0 P4 (.slice none 0 0) (made + 1) n4 ((turn T 0 [(⟨a.f, a.t, a.s⟩ : Ed)], T) :: ps) [] from ⟨HH4.out.below hb48, by have := HBD.out.apply [(⟨a.f, a.t, a.s⟩ : Ed)] (appl T 0 [(⟨a.f, a.t, a.s⟩ : Ed)]) (turn T 0 [(⟨a.f, a.t, a.s⟩ : Ed)]) (by rw [HLN.out]; omega) HA30.out; rwa [HLN.out] at this, by rw [strs_cons, ← HS.out]; exact HR6.out.kt (kt_below hb8), RdS.nil _, by omega, by omega, by omega⟩)
                clear HO4 HB46 HR6 hb48 hb8 HH4
                obtain ⟨hnp5, hnf5⟩ := HP5.out.np
                have hmx1 := HP5.out.m1
                obtain ⟨mx, hmx⟩ : ∃ mx, mx = max 1 n4 := ⟨_, rfl⟩
                have hmx0 : 1 ≤ mx := by omega
                rw [← hmx] at hmx1
                have HMX := Lib.hid hmx; clear hmx
                have HNP := Lib.hid hnp5; have HNF := Lib.hid hnf5
                clear hnp5 hnf5

                obtain ⟨S5, hS5⟩ : ∃ S5, S5 = (⟨((appl T 0 [(⟨a.f, a.t, a.s⟩ : Ed)])).toArray⟩ : ByteArray) := ⟨_, rfl⟩
                have hSz5 : ((appl T 0 [(⟨a.f, a.t, a.s⟩ : Ed)])).length = S5.size := by rw [hS5]; simp [ByteArray.size]
                rw [← hS5]
                have HS5 := Lib.hid hS5; have HSZ5 := Lib.hid hSz5
                clear hS5 hSz5

                go_wp2_with fail
                refine (his_text _ _ _ _ _ _ _ _ _ _ HP5.out.h).mono ?_
                rintro e w6 ⟨rfl, hb6⟩
                rw [← HS5.out]
                have HP6 := Lib.hid (HP5.out.below hb6)
                have hbl6 := below_tr hbl5 hb6 hbl5.size
                clear HP5 hbl5 hb6
                go_wp2_with fail
                refine (his_len HP6.out.h).mono ?_
                rintro e w7 ⟨rfl, rfl⟩
                rw [HSZ5.out]
                go_wp2_with fail
                refine (his_past HP6.out.h).mono ?_
                rintro e w8 ⟨rfl, rfl⟩
                rw [HNP.out]
                go_wp2_with fail
                refine (his_future HP6.out.h).mono ?_
                rintro e w9 ⟨rfl, rfl⟩
                rw [HNF.out]
                have qm1 : decide ((mx : Int) < 1) = false := decide_eq_false (by omega)
                have qm2 : decide (((m : Int) + 2 * (1 : Int)) < (mx : Int)) = false := decide_eq_false (by omega)
                go_wp2_with fail
                refine (his_pieces HP6.out.h).mono ?_
                rintro e w10 ⟨rfl, rfl⟩
                rw [← HMX.out]
                go_wp2_with fail
                refine (his_pieces HP6.out.h).mono ?_
                rintro e w11 ⟨rfl, rfl⟩
                rw [← HMX.out]
                go_wp2
                go_roundw
                case rel => exact ⟨k + 1, (m + 2 * 1), (appl T 0 [(⟨a.f, a.t, a.s⟩ : Ed)]), A6, (np + 1), c6, none, 0, 0, P4, (.slice none 0 0), (made + 1), n4, ((turn T 0 [(⟨a.f, a.t, a.s⟩ : Ed)], T) :: ps), [], by omega, by go_num, congrArg _ (by omega), congrArg _ HS5.out, rfl, rfl, HP6.out, hbl6⟩
                case measure => simp [intOf]; omega
          · by_cases h1 : a.k = 1
            · as_aux_lemma =>
                rw [h1] at c0
                clear h1

                have HPx := Lib.hid (HPl.out.below ((Below.refl _ wr).alloc (Nat.le_refl _) (.cells #[.int .i64 1, .int .i64 a.f, .int .i64 a.t, .string a.s, .slice a.A a.len a.cap] 52)))
                have hbx := hb.alloc hb.size (.cells #[.int .i64 1, .int .i64 a.f, .int .i64 a.t, .string a.s, .slice a.A a.len a.cap] 52)
                have HC0 := Lib.hid (heap_alloc_new wr (.cells #[.int .i64 1, .int .i64 a.f, .int .i64 a.t, .string a.s, .slice a.A a.len a.cap] 52))
                clear HPl

                have HPy := HPx
                have hby := hbx
                have HCy := HC0
                have HE0 := Lib.hid ((R4.out.below (hbx_below hb (.cells #[.int .i64 1, .int .i64 a.f, .int .i64 a.t, .string a.s, .slice a.A a.len a.cap] 52) hb.size)).more hbx.size)
                clear HPx hbx HC0
                have hlen30 : a.len ≤ 30 := by rw [← R1.out]; exact (great_tot HGL.out).1
                have HTOT := Lib.hid (great_tot HGL.out).2
                have HLN := R1
                have hd1 := r2
                have hd2 := r3

                have hTl : S.size + 3000 ≤ 1048576 := by omega
                have hml := HPy.out.b.m
                have hpl := HPy.out.b.p
                have hnp := HPy.out.np
                have hnn : np ≤ k := by omega
                cases hR : rightB 0 S.size a.l with
                | false =>
                  as_aux_lemma =>
                  have HR := Lib.hid hR; clear hR
                  go_wp2_with fail
                  refine (rright_any S.size a.A a.len a.cap a.l _ HLN.out hd1 hd2 HE0.out).mono ?_
                  rintro e w4 ⟨rfl, hb4⟩
                  rw [HR.out]
                  have HP4 := Lib.hid (HPy.out.below hb4)
                  have hbl4 := below_tr hby hb4 hby.size
                  have HC4 := Lib.hid ((hb4.block _ (lt_of_heap HCy.out)).trans HCy.out)
                  have HE4 := Lib.hid ((HE0.out.below hb4).more hb4.size)
                  have d0 : w4.cell? ⟨wr.heap.size, 0, none⟩ = some (.int .i64 1) := by rw [Lib.cell_of_heap HC4.out]; rfl
                  have d1 : w4.cell? ⟨wr.heap.size, 1, none⟩ = some (.int .i64 a.f) := by rw [Lib.cell_of_heap HC4.out]; rfl
                  have d2 : w4.cell? ⟨wr.heap.size, 2, none⟩ = some (.int .i64 a.t) := by rw [Lib.cell_of_heap HC4.out]; rfl
                  have d3 : w4.cell? ⟨wr.heap.size, 3, none⟩ = some (.string a.s) := by rw [Lib.cell_of_heap HC4.out]; rfl
                  clear HPy hby HCy HE0 hb4 HC4
                  go_wp2_with fail

                  obtain ⟨A4, c4', L4, ht4⟩ := HP4.out.h.tx
                  refine (bap_no _ _ _ _ _ _ _ _ _ _ _ _ _ _ _ ht4 HLN.out hd1 hd2 HE4.out (by rw [HSZ.out]; exact HR.out)).mono ?_

                  rintro e w5 ⟨rfl, hb5⟩
                  have HP5 := Lib.hid ((HP4.out.below hb5).more (k' := k + 1) (by omega))
                  have hbl5 := below_tr hbl4 hb5 hbl4.size
                  clear HP4 hbl4 hb5 d0 d1 d2 d3
                  obtain ⟨hnp5, hnf5⟩ := HP5.out.np
                  have hmx1 := HP5.out.m1
                  obtain ⟨mx, hmx⟩ : ∃ mx, mx = max 1 n := ⟨_, rfl⟩
                  have hmx0 : 1 ≤ mx := by omega
                  rw [← hmx] at hmx1
                  have HMX := Lib.hid hmx; clear hmx
                  have HNP := Lib.hid hnp5; have HNF := Lib.hid hnf5
                  clear hnp5 hnf5

                  go_wp2_with fail
                  refine (his_text _ _ _ _ _ _ _ _ _ _ HP5.out.h).mono ?_
                  rintro e w6 ⟨rfl, hb6⟩
                  rw [← HS.out]
                  have HP6 := Lib.hid (HP5.out.below hb6)
                  have hbl6 := below_tr hbl5 hb6 hbl5.size
                  clear HP5 hbl5 hb6
                  go_wp2_with fail
                  refine (his_len HP6.out.h).mono ?_
                  rintro e w7 ⟨rfl, rfl⟩
                  rw [HSZ.out]
                  go_wp2_with fail
                  refine (his_past HP6.out.h).mono ?_
                  rintro e w8 ⟨rfl, rfl⟩
                  rw [HNP.out]
                  go_wp2_with fail
                  refine (his_future HP6.out.h).mono ?_
                  rintro e w9 ⟨rfl, rfl⟩
                  rw [HNF.out]
                  have qm1 : decide ((mx : Int) < 1) = false := decide_eq_false (by omega)
                  have qm2 : decide ((m : Int) < (mx : Int)) = false := decide_eq_false (by omega)
                  go_wp2_with fail
                  refine (his_pieces HP6.out.h).mono ?_
                  rintro e w10 ⟨rfl, rfl⟩
                  rw [← HMX.out]
                  go_wp2_with fail
                  refine (his_pieces HP6.out.h).mono ?_
                  rintro e w11 ⟨rfl, rfl⟩
                  rw [← HMX.out]
                  go_wp2
                  go_roundw
                  case rel => exact ⟨k + 1, m, T, Ap, np, cp, Af, nf, cf, P, F, made, n, ps, fs, by omega, by go_num, congrArg _ (by omega), congrArg _ HS.out, rfl, rfl, HP6.out, hbl6⟩
                  case measure => simp [intOf]; omega

                | true =>
                  as_aux_lemma =>
                  have HR := Lib.hid hR; clear hR
                  have hRT : rightB 0 T.length a.l = true := by rw [HSZ.out]; exact HR.out
                  have halen := appl_tot_le T a.l hRT
                  rw [HSZ.out] at halen
                  have htt := HTOT.out
                  have hA48 : (appl T 0 a.l).length ≤ 1048576 := by omega
                  have hA30 : (appl T 0 a.l).length ≤ T.length + 3000 := by rw [HSZ.out]; omega
                  have HRT := Lib.hid hRT; have HA48 := Lib.hid hA48; have HA30 := Lib.hid hA30
                  clear hRT hA48 hA30 halen htt
                  go_wp2_with fail
                  refine (rright_any S.size a.A a.len a.cap a.l _ HLN.out hd1 hd2 HE0.out).mono ?_
                  rintro e w3 ⟨rfl, hb3⟩
                  rw [HR.out]
                  have HP3 := Lib.hid (HPy.out.below hb3)
                  have hbl3 := below_tr hby hb3 hby.size
                  have HC3 := Lib.hid ((hb3.block _ (lt_of_heap HCy.out)).trans HCy.out)
                  have HE3 := Lib.hid ((HE0.out.below hb3).more hb3.size)
                  have d0 : w3.cell? ⟨wr.heap.size, 0, none⟩ = some (.int .i64 1) := by rw [Lib.cell_of_heap HC3.out]; rfl
                  have d1 : w3.cell? ⟨wr.heap.size, 1, none⟩ = some (.int .i64 a.f) := by rw [Lib.cell_of_heap HC3.out]; rfl
                  have d2 : w3.cell? ⟨wr.heap.size, 2, none⟩ = some (.int .i64 a.t) := by rw [Lib.cell_of_heap HC3.out]; rfl
                  have d3 : w3.cell? ⟨wr.heap.size, 3, none⟩ = some (.string a.s) := by rw [Lib.cell_of_heap HC3.out]; rfl
                  have hzw3 : wr.heap.size ≤ w3.heap.size := by have := hb3.size; simp at this; omega
                  have hR1 := R1.out
                  have hm2 := HPy.out.m2

                  clear HPy hby HCy HE0 hb3 HC3
                  go_wp2_with fail

                  refine (bap_ok _ _ _ _ _ _ _ _ _ _ _ _ _ _ HP3.out.h HLN.out hd1 hd2 (by omega) HE3.out HRT.out (by have := HTOT.out; omega) HA48.out (by omega) (by omega)).mono ?_

                  rintro e w4 ⟨rfl, P4, hbk⟩
                  have hbN := hbk.below HP3.out.h
                  have hzw4 : wr.heap.size ≤ w4.heap.size := by have := hbN.size; omega
                  have hbl4 := below_tr hbl3 hbN hz1
                  obtain ⟨n4, hh4, hn4, hkb4, _⟩ := hbk
                  have hkt4 := HP3.out.h.kt hkb4
                  have HH4 := Lib.hid hh4
                  have HO4 := Lib.hid (HP3.out.p.kt hkt4)
                  have HBD := Lib.hid HP3.out.b

                  have HE4 := Lib.hid ((R4.out.below (below_from hb hbl4 (by have := hzw4; omega))).more hbl4.size)

                  clear hh4 hkb4 hkt4 hbN HP3 hbl3 d1 d2 d3
                  have HD4 := Lib.hid (kt_below ((Below.refl _ w4).alloc (Nat.le_refl _) (.cells #[] 9)))
                  go_wp2_with (at_builtin; refine wpList_app_rd rfl _ _ rfl w4.heap.size (.slice (some ⟨w4.heap.size, 0, none⟩) 0 0) 0 [] rfl (own_empty w4) Ap np cp (strs ps) rfl (HO4.out.kt HD4.out) (by omega) (by simp) ?_)
                  intro v5 w5 hown5 hg5
                  obtain ⟨A5, c5, rfl⟩ := own_form hown5
                  try rw [Nat.zero_add, List.nil_append] at hown5
                  try rw [Nat.zero_add]
                  have hb45 : Below w4.heap.size w4 w5 := ((Below.refl _ w4).alloc (Nat.le_refl _) _).grown hg5 (by simp) (fun g hg => by simp [Value.ownBlock] at hg; omega)
                  have HO5 := Lib.hid hown5
                  have HB45 := Lib.hid hb45
                  have hz45 := hb45.size
                  clear hown5 hg5 hb45 HD4
                  go_wp2_with (at_builtin; refine wpList_app_rd rfl _ _ rfl w4.heap.size (.slice A5 np c5) np _ rfl (HO5.out.alloc _) (some ⟨w5.heap.size, 0, none⟩) 1 1 [S] rfl (RdS.one w5 S) (by omega) (by simp; omega) ?_)
                  intro v6 w6 hown6 hg6
                  obtain ⟨A6, c6, rfl⟩ := own_form hown6
                  have hb46 : Below w4.heap.size w4 w6 := (HB45.out.alloc hz45 _).grown hg6 (by simp; omega) (fun g hg => (HO5.out.lt g hg).1)
                  have HR6 := Lib.hid (show RdS w6 A6 (np + 1) c6 ((strs ps) ++ [S]) from RdS.own (by rw [List.map_append]; exact hown6))
                  have HB46 := Lib.hid hb46
                  have hz46 := hb46.size
                  clear hown6 hg6 hb46 HO5 HB45

                  have p3 : IntKind.i64.wrap (2 * (a.len : Int)) = 2 * (a.len : Int) := IntWalk.i64_in _ (by omega)
                  have p4 : IntKind.i64.wrap ((m : Int) + 2 * (a.len : Int)) = (m : Int) + 2 * (a.len : Int) := IntWalk.i64_in _ (by omega)

                  have HE6 := Lib.hid ((HE4.out.below HB46.out).more hz46)

                  go_wp2_with fail
                  refine (rapply_any S a.A a.len a.cap a.l w6 HLN.out hd1 hd2 HE6.out HR.out (by have := HTOT.out; omega)).mono ?_
                  rintro e w8 ⟨rfl, hb8⟩
                  rw [HSD.out]
                  have hb48 := HB46.out.trans (hb8.mono hz46)
                  have hbl5 := below_tr hbl4 hb48 hbl4.size
                  have HP5 := Lib.hid (show Pl w8 w1.heap.size Bf (k + 1) (m + 2 * a.len) (appl T 0 a.l) A6 (np + 1) c6 none 0 0 P4 (.slice none 0 0) (made + a.len) n4 ((turn T 0 a.l, T) :: ps) [] from ⟨HH4.out.below hb48, by have := HBD.out.apply a.l (appl T 0 a.l) (turn T 0 a.l) (by rw [HLN.out]; omega) HA30.out; rwa [HLN.out] at this, by rw [strs_cons, ← HS.out]; exact HR6.out.kt (kt_below hb8), RdS.nil _, by omega, by omega, by omega⟩)
                  clear HO4 HB46 HR6 hb48 hb8 HH4
                  obtain ⟨hnp5, hnf5⟩ := HP5.out.np
                  have hmx1 := HP5.out.m1
                  obtain ⟨mx, hmx⟩ : ∃ mx, mx = max 1 n4 := ⟨_, rfl⟩
                  have hmx0 : 1 ≤ mx := by omega
                  rw [← hmx] at hmx1
                  have HMX := Lib.hid hmx; clear hmx
                  have HNP := Lib.hid hnp5; have HNF := Lib.hid hnf5
                  clear hnp5 hnf5

                  obtain ⟨S5, hS5⟩ : ∃ S5, S5 = (⟨((appl T 0 a.l)).toArray⟩ : ByteArray) := ⟨_, rfl⟩
                  have hSz5 : ((appl T 0 a.l)).length = S5.size := by rw [hS5]; simp [ByteArray.size]
                  rw [← hS5]
                  have HS5 := Lib.hid hS5; have HSZ5 := Lib.hid hSz5
                  clear hS5 hSz5

                  go_wp2_with fail
                  refine (his_text _ _ _ _ _ _ _ _ _ _ HP5.out.h).mono ?_
                  rintro e w6 ⟨rfl, hb6⟩
                  rw [← HS5.out]
                  have HP6 := Lib.hid (HP5.out.below hb6)
                  have hbl6 := below_tr hbl5 hb6 hbl5.size
                  clear HP5 hbl5 hb6
                  go_wp2_with fail
                  refine (his_len HP6.out.h).mono ?_
                  rintro e w7 ⟨rfl, rfl⟩
                  rw [HSZ5.out]
                  go_wp2_with fail
                  refine (his_past HP6.out.h).mono ?_
                  rintro e w8 ⟨rfl, rfl⟩
                  rw [HNP.out]
                  go_wp2_with fail
                  refine (his_future HP6.out.h).mono ?_
                  rintro e w9 ⟨rfl, rfl⟩
                  rw [HNF.out]
                  have qm1 : decide ((mx : Int) < 1) = false := decide_eq_false (by omega)
                  have qm2 : decide (((m : Int) + 2 * (a.len : Int)) < (mx : Int)) = false := decide_eq_false (by omega)
                  go_wp2_with fail
                  refine (his_pieces HP6.out.h).mono ?_
                  rintro e w10 ⟨rfl, rfl⟩
                  rw [← HMX.out]
                  go_wp2_with fail
                  refine (his_pieces HP6.out.h).mono ?_
                  rintro e w11 ⟨rfl, rfl⟩
                  rw [← HMX.out]
                  go_wp2
                  go_roundw
                  case rel => exact ⟨k + 1, (m + 2 * a.len), (appl T 0 a.l), A6, (np + 1), c6, none, 0, 0, P4, (.slice none 0 0), (made + a.len), n4, ((turn T 0 a.l, T) :: ps), [], by omega, by go_num, congrArg _ (by omega), congrArg _ HS5.out, rfl, rfl, HP6.out, hbl6⟩
                  case measure => simp [intOf]; omega
            · by_cases h2 : a.k = 2
              · as_aux_lemma =>
                  rw [h2] at c0
                  clear h2
                  cases ps with
                  | nil =>
                    as_aux_lemma =>
                      have HPx := Lib.hid (HPl.out.below ((Below.refl _ wr).alloc (Nat.le_refl _) (.cells #[.int .i64 2, .int .i64 a.f, .int .i64 a.t, .string a.s, .slice a.A a.len a.cap] 52)))
                      have hbx := hb.alloc hb.size (.cells #[.int .i64 2, .int .i64 a.f, .int .i64 a.t, .string a.s, .slice a.A a.len a.cap] 52)
                      have HC0 := Lib.hid (heap_alloc_new wr (.cells #[.int .i64 2, .int .i64 a.f, .int .i64 a.t, .string a.s, .slice a.A a.len a.cap] 52))
                      clear HPl

                      have hn0 : np = 0 := by have := HPx.out.np.1; simp at this; omega
                      subst hn0
                      go_wp2_with fail
                      refine (undo_none _ _ _ _ _ _ _ _ _ HPx.out.h).mono ?_
                      rintro e w4 ⟨rfl, rfl⟩
                      have HP5 := Lib.hid (HPx.out.more (k' := k + 1) (by omega))
                      have hbl5 := hbx
                      clear HPx hbx HC0

                      obtain ⟨hnp5, hnf5⟩ := HP5.out.np
                      have hmx1 := HP5.out.m1
                      obtain ⟨mx, hmx⟩ : ∃ mx, mx = max 1 n := ⟨_, rfl⟩
                      have hmx0 : 1 ≤ mx := by omega
                      rw [← hmx] at hmx1
                      have HMX := Lib.hid hmx; clear hmx
                      have HNP := Lib.hid hnp5; have HNF := Lib.hid hnf5
                      clear hnp5 hnf5

                      go_wp2_with fail
                      refine (his_text _ _ _ _ _ _ _ _ _ _ HP5.out.h).mono ?_
                      rintro e w6 ⟨rfl, hb6⟩
                      rw [← HS.out]
                      have HP6 := Lib.hid (HP5.out.below hb6)
                      have hbl6 := below_tr hbl5 hb6 hbl5.size
                      clear HP5 hbl5 hb6
                      go_wp2_with fail
                      refine (his_len HP6.out.h).mono ?_
                      rintro e w7 ⟨rfl, rfl⟩
                      rw [HSZ.out]
                      go_wp2_with fail
                      refine (his_past HP6.out.h).mono ?_
                      rintro e w8 ⟨rfl, rfl⟩
                      rw [HNP.out]
                      go_wp2_with fail
                      refine (his_future HP6.out.h).mono ?_
                      rintro e w9 ⟨rfl, rfl⟩
                      rw [HNF.out]
                      have qm1 : decide ((mx : Int) < 1) = false := decide_eq_false (by omega)
                      have qm2 : decide ((m : Int) < (mx : Int)) = false := decide_eq_false (by omega)
                      go_wp2_with fail
                      refine (his_pieces HP6.out.h).mono ?_
                      rintro e w10 ⟨rfl, rfl⟩
                      rw [← HMX.out]
                      go_wp2_with fail
                      refine (his_pieces HP6.out.h).mono ?_
                      rintro e w11 ⟨rfl, rfl⟩
                      rw [← HMX.out]
                      go_wp2
                      go_roundw
                      case rel => exact ⟨k + 1, m, T, Ap, 0, cp, Af, nf, cf, P, F, made, n, [], fs, by omega, by go_num, congrArg _ (by omega), congrArg _ HS.out, rfl, rfl, HP6.out, hbl6⟩
                      case measure => simp [intOf]; omega
                  | cons st ps =>
                    as_aux_lemma =>
                      have HPx := Lib.hid (HPl.out.below ((Below.refl _ wr).alloc (Nat.le_refl _) (.cells #[.int .i64 2, .int .i64 a.f, .int .i64 a.t, .string a.s, .slice a.A a.len a.cap] 52)))
                      have hbx := hb.alloc hb.size (.cells #[.int .i64 2, .int .i64 a.f, .int .i64 a.t, .string a.s, .slice a.A a.len a.cap] 52)
                      have HC0 := Lib.hid (heap_alloc_new wr (.cells #[.int .i64 2, .int .i64 a.f, .int .i64 a.t, .string a.s, .slice a.A a.len a.cap] 52))
                      clear HPl

                      obtain ⟨l0, t0⟩ := st
                      obtain ⟨hR0, hap0, htl0, hll0, _⟩ := HPx.out.h.pch
                      simp only at hR0 hap0 htl0 hll0
                      have HAP := Lib.hid hap0
                      have htot0 : tot l0 ≤ 1048576 := by have := tot_le_appl T l0 0; rw [hap0] at this; omega
                      obtain ⟨np', hnp'⟩ : ∃ np', np = np' + 1 := ⟨ps.length, by have := HPx.out.np.1; simp at this; omega⟩
                      subst hnp'
                      have hrd := HPx.out.p
                      rw [strs_cons] at hrd
                      obtain ⟨gp, hAp, _, _, hcp1, hcp2⟩ := hrd.pop
                      subst hAp
                      have HRD := Lib.hid hrd
                      have hnn : np' ≤ k ∧ nf ≤ k := by
                        have h1 := HPx.out.np; have h2 := HPx.out.b.p; have h3 := HPx.out.b.f; simp at h1 h2 h3; omega
                      have HR0 := Lib.hid (show rightB 0 S.size l0 = true by rw [← HSZ.out]; exact hR0)
                      obtain ⟨ll, hll⟩ : ∃ ll, ll = l0.length := ⟨_, rfl⟩
                      rw [← hll] at hll0
                      clear hrd hR0 hap0
                      have p1 : IntKind.i64.wrap (((np' + 1 : Nat) : Int) - 1) = (np' : Int) := by rw [IntWalk.i64_in _ (by omega)]; omega
                      have p3 : IntKind.i64.wrap (2 * (ll : Int)) = 2 * (ll : Int) := IntWalk.i64_in _ (by omega)
                      have p4 : IntKind.i64.wrap ((m : Int) + 2 * (ll : Int)) = (m : Int) + 2 * (ll : Int) := IntWalk.i64_in _ (by omega)
                      have u1 : (np' : Int) < ((np' + 1 : Nat) : Int) := by omega
                      have u2 : (np' : Int) ≤ (cp : Int) := by omega
                      have u3 : (0 : Int) ≤ (np' : Int) := by omega
                      have q9 : decide ((0 : Int) < ((np' + 1 : Nat) : Int)) = true := decide_eq_true (by omega)
                      go_wp2_with fail
                      refine (undo_ok _ _ _ _ _ _ _ _ _ _ _ _ HPx.out.h (by have := HPx.out.b.f; omega)).mono ?_
                      rintro e w4 ⟨B, d, rfl, hst4, P4, F4, hbk⟩
                      have hbN := hbk.below HPx.out.h
                      have hbl4 := below_tr hbx hbN hz1
                      obtain ⟨n4, hh4, hn4, hkb4, _⟩ := hbk
                      have hkt4 := HPx.out.h.kt hkb4
                      have HH4 := Lib.hid hh4; have HST4 := Lib.hid hst4
                      have HO4 := Lib.hid (HPx.out.f.kt hkt4)
                      have HRD4 := Lib.hid (HRD.out.kt hkt4)
                      have HBD := Lib.hid HPx.out.b
                      have hm2 := HPx.out.m2
                      rw [← hll] at hn4 HST4 HH4 ⊢
                      have HLL := Lib.hid hll
                      clear hh4 hst4 hkb4 hkt4 hbN hbx HC0 HPx HRD hll

                      have HD4 := Lib.hid (kt_below ((Below.refl _ w4).alloc (Nat.le_refl _) (.cells #[] 9)))
                      go_wp2_with (at_builtin; refine wpList_app_rd rfl _ _ rfl w4.heap.size (.slice (some ⟨w4.heap.size, 0, none⟩) 0 0) 0 [] rfl (own_empty w4) Af nf cf (strs fs) rfl (HO4.out.kt HD4.out) (by omega) (by simp) ?_)
                      intro v5 w5 hown5 hg5
                      obtain ⟨A5, c5, rfl⟩ := own_form hown5
                      try rw [Nat.zero_add, List.nil_append] at hown5
                      try rw [Nat.zero_add]
                      have hb45 : Below w4.heap.size w4 w5 := ((Below.refl _ w4).alloc (Nat.le_refl _) _).grown hg5 (by simp) (fun g hg => by simp [Value.ownBlock] at hg; omega)
                      have HO5 := Lib.hid hown5
                      have HB45 := Lib.hid hb45
                      have hz45 := hb45.size
                      clear hown5 hg5 hb45 HD4
                      go_wp2_with (at_builtin; refine wpList_app_rd rfl _ _ rfl w4.heap.size (.slice A5 nf c5) nf _ rfl (HO5.out.alloc _) (some ⟨w5.heap.size, 0, none⟩) 1 1 [S] rfl (RdS.one w5 S) (by omega) (by simp; omega) ?_)
                      intro v6 w6 hown6 hg6
                      obtain ⟨A6, c6, rfl⟩ := own_form hown6
                      have hb46 : Below w4.heap.size w4 w6 := (HB45.out.alloc hz45 _).grown hg6 (by simp; omega) (fun g hg => (HO5.out.lt g hg).1)
                      have HR6 := Lib.hid (show RdS w6 A6 (nf + 1) c6 ((strs fs) ++ [S]) from RdS.own (by rw [List.map_append]; exact hown6))
                      have HB46 := Lib.hid hb46
                      have hz46 := hb46.size
                      clear hown6 hg6 hb46 HO5 HB45

                      have hbl6 := below_tr hbl4 HB46.out hbl4.size
                      have HRD6 := Lib.hid (HRD4.out.kt (kt_below HB46.out))
                      obtain ⟨gp', hAp', hcell6, _, _, _⟩ := HRD6.out.pop
                      have hgp : gp' = gp := by injection hAp' with h; injection h with h; exact h.symm
                      subst hgp
                      clear hAp'
                      obtain ⟨hl6, hd1, hd2, hE6⟩ := (HST4.out.kt (kt_below HB46.out)).eds
                      have HL6 := Lib.hid hl6; have HE6 := Lib.hid hE6
                      clear hl6 hE6
                      go_wp2_with fail
                      refine (rright_any S.size B ll d l0 w6 HL6.out hd1 hd2 HE6.out).mono ?_
                      rintro e w7 ⟨rfl, hb7⟩
                      rw [HR0.out]
                      have HE7 := Lib.hid ((HE6.out.below hb7).more hb7.size)
                      have hb67 := HB46.out.trans (hb7.mono hz46)
                      clear HE6 hcell6
                      go_wp2_with fail
                      refine (rapply_any S B ll d l0 w7 HL6.out hd1 hd2 HE7.out HR0.out (by omega)).mono ?_
                      rintro e w8 ⟨rfl, hb8⟩
                      rw [HSD.out, HAP.out]
                      have hb48 := hb67.trans (hb8.mono (by have := hb7.size; omega))
                      have hbl5 := below_tr hbl4 hb48 hbl4.size
                      have hk68 : KT w6 w8 := (kt_below hb7).trans (kt_below hb8)
                      obtain ⟨g9, hg9, hc9, hrdp, hx9, hy9⟩ := HRD4.out.pop
                      clear hg9 hc9 hx9 hy9

                      have HP5 := Lib.hid (show Pl w8 w1.heap.size Bf (k + 1) (m + 2 * ll) t0 (some ⟨gp', 0, none⟩) np' cp A6 (nf + 1) c6 P4 F4 (made - ll) n4 ps ((turn T 0 l0, T) :: fs) from ⟨HH4.out.below hb48, by rw [HLL.out]; exact HBD.out.undo _, hrdp.kt (kt_below hb48), by rw [strs_cons, ← HS.out]; exact HR6.out.kt hk68, by omega, by omega, by omega⟩)
                      clear HRD4 HRD6 HO4 HB46 HR6 HE7 hb67 hb48 hk68 hrdp hbl6 hb7 hb8 HH4 HST4

                      obtain ⟨hnp5, hnf5⟩ := HP5.out.np
                      have hmx1 := HP5.out.m1
                      obtain ⟨mx, hmx⟩ : ∃ mx, mx = max 1 n4 := ⟨_, rfl⟩
                      have hmx0 : 1 ≤ mx := by omega
                      rw [← hmx] at hmx1
                      have HMX := Lib.hid hmx; clear hmx
                      have HNP := Lib.hid hnp5; have HNF := Lib.hid hnf5
                      clear hnp5 hnf5

                      obtain ⟨S5, hS5⟩ : ∃ S5, S5 = (⟨(t0).toArray⟩ : ByteArray) := ⟨_, rfl⟩
                      have hSz5 : (t0).length = S5.size := by rw [hS5]; simp [ByteArray.size]
                      rw [← hS5]
                      have HS5 := Lib.hid hS5; have HSZ5 := Lib.hid hSz5
                      clear hS5 hSz5

                      go_wp2_with fail
                      refine (his_text _ _ _ _ _ _ _ _ _ _ HP5.out.h).mono ?_
                      rintro e w6 ⟨rfl, hb6⟩
                      rw [← HS5.out]
                      have HP6 := Lib.hid (HP5.out.below hb6)
                      have hbl6 := below_tr hbl5 hb6 hbl5.size
                      clear HP5 hbl5 hb6
                      go_wp2_with fail
                      refine (his_len HP6.out.h).mono ?_
                      rintro e w7 ⟨rfl, rfl⟩
                      rw [HSZ5.out]
                      go_wp2_with fail
                      refine (his_past HP6.out.h).mono ?_
                      rintro e w8 ⟨rfl, rfl⟩
                      rw [HNP.out]
                      go_wp2_with fail
                      refine (his_future HP6.out.h).mono ?_
                      rintro e w9 ⟨rfl, rfl⟩
                      rw [HNF.out]
                      have qm1 : decide ((mx : Int) < 1) = false := decide_eq_false (by omega)
                      have qm2 : decide (((m : Int) + 2 * (ll : Int)) < (mx : Int)) = false := decide_eq_false (by omega)
                      go_wp2_with fail
                      refine (his_pieces HP6.out.h).mono ?_
                      rintro e w10 ⟨rfl, rfl⟩
                      rw [← HMX.out]
                      go_wp2_with fail
                      refine (his_pieces HP6.out.h).mono ?_
                      rintro e w11 ⟨rfl, rfl⟩
                      rw [← HMX.out]
                      go_wp2
                      go_roundw
                      case rel => exact ⟨k + 1, (m + 2 * ll), t0, (some ⟨gp', 0, none⟩), np', cp, A6, (nf + 1), c6, P4, F4, (made - ll), n4, ps, ((turn T 0 l0, T) :: fs), by omega, by go_num, congrArg _ (by omega), congrArg _ HS5.out, rfl, rfl, HP6.out, hbl6⟩
                      case measure => simp [intOf]; omega
              · by_cases h3k : a.k = 3
                · as_aux_lemma =>
                    rw [h3k] at c0
                    clear h3k
                    cases fs with
                    | nil =>
                      as_aux_lemma =>
                        have HPx := Lib.hid (HPl.out.below ((Below.refl _ wr).alloc (Nat.le_refl _) (.cells #[.int .i64 3, .int .i64 a.f, .int .i64 a.t, .string a.s, .slice a.A a.len a.cap] 52)))
                        have hbx := hb.alloc hb.size (.cells #[.int .i64 3, .int .i64 a.f, .int .i64 a.t, .string a.s, .slice a.A a.len a.cap] 52)
                        have HC0 := Lib.hid (heap_alloc_new wr (.cells #[.int .i64 3, .int .i64 a.f, .int .i64 a.t, .string a.s, .slice a.A a.len a.cap] 52))
                        clear HPl

                        have hn0 : nf = 0 := by have := HPx.out.np.2; simp at this; omega
                        subst hn0
                        go_wp2_with fail
                        refine (redo_none _ _ _ _ _ _ _ _ _ HPx.out.h).mono ?_
                        rintro e w4 ⟨rfl, rfl⟩
                        have HP5 := Lib.hid (HPx.out.more (k' := k + 1) (by omega))
                        have hbl5 := hbx
                        clear HPx hbx HC0

                        obtain ⟨hnp5, hnf5⟩ := HP5.out.np
                        have hmx1 := HP5.out.m1
                        obtain ⟨mx, hmx⟩ : ∃ mx, mx = max 1 n := ⟨_, rfl⟩
                        have hmx0 : 1 ≤ mx := by omega
                        rw [← hmx] at hmx1
                        have HMX := Lib.hid hmx; clear hmx
                        have HNP := Lib.hid hnp5; have HNF := Lib.hid hnf5
                        clear hnp5 hnf5

                        go_wp2_with fail
                        refine (his_text _ _ _ _ _ _ _ _ _ _ HP5.out.h).mono ?_
                        rintro e w6 ⟨rfl, hb6⟩
                        rw [← HS.out]
                        have HP6 := Lib.hid (HP5.out.below hb6)
                        have hbl6 := below_tr hbl5 hb6 hbl5.size
                        clear HP5 hbl5 hb6
                        go_wp2_with fail
                        refine (his_len HP6.out.h).mono ?_
                        rintro e w7 ⟨rfl, rfl⟩
                        rw [HSZ.out]
                        go_wp2_with fail
                        refine (his_past HP6.out.h).mono ?_
                        rintro e w8 ⟨rfl, rfl⟩
                        rw [HNP.out]
                        go_wp2_with fail
                        refine (his_future HP6.out.h).mono ?_
                        rintro e w9 ⟨rfl, rfl⟩
                        rw [HNF.out]
                        have qm1 : decide ((mx : Int) < 1) = false := decide_eq_false (by omega)
                        have qm2 : decide ((m : Int) < (mx : Int)) = false := decide_eq_false (by omega)
                        go_wp2_with fail
                        refine (his_pieces HP6.out.h).mono ?_
                        rintro e w10 ⟨rfl, rfl⟩
                        rw [← HMX.out]
                        go_wp2_with fail
                        refine (his_pieces HP6.out.h).mono ?_
                        rintro e w11 ⟨rfl, rfl⟩
                        rw [← HMX.out]
                        go_wp2
                        go_roundw
                        case rel => exact ⟨k + 1, m, T, Ap, np, cp, Af, 0, cf, P, F, made, n, ps, [], by omega, by go_num, congrArg _ (by omega), congrArg _ HS.out, rfl, rfl, HP6.out, hbl6⟩
                        case measure => simp [intOf]; omega
                    | cons st fs =>
                      as_aux_lemma =>
                        have HPx := Lib.hid (HPl.out.below ((Below.refl _ wr).alloc (Nat.le_refl _) (.cells #[.int .i64 3, .int .i64 a.f, .int .i64 a.t, .string a.s, .slice a.A a.len a.cap] 52)))
                        have hbx := hb.alloc hb.size (.cells #[.int .i64 3, .int .i64 a.f, .int .i64 a.t, .string a.s, .slice a.A a.len a.cap] 52)
                        have HC0 := Lib.hid (heap_alloc_new wr (.cells #[.int .i64 3, .int .i64 a.f, .int .i64 a.t, .string a.s, .slice a.A a.len a.cap] 52))
                        clear HPl

                        obtain ⟨l0, t0⟩ := st
                        obtain ⟨hR0, hap0, htl0, hll0, _⟩ := HPx.out.h.fch
                        simp only at hR0 hap0 htl0 hll0
                        have HAP := Lib.hid hap0
                        have htot0 : tot l0 ≤ 1048576 := by have := tot_le_appl T l0 0; rw [hap0] at this; omega
                        obtain ⟨np', hnp'⟩ : ∃ np', nf = np' + 1 := ⟨fs.length, by have := HPx.out.np.2; simp at this; omega⟩
                        subst hnp'
                        have hrd := HPx.out.f
                        rw [strs_cons] at hrd
                        obtain ⟨gp, hAp, _, _, hcp1, hcp2⟩ := hrd.pop
                        subst hAp
                        have HRD := Lib.hid hrd
                        have hnn : np' ≤ k ∧ np ≤ k := by
                          have h1 := HPx.out.np; have h2 := HPx.out.b.p; have h3 := HPx.out.b.f; simp at h1 h2 h3; omega
                        have HR0 := Lib.hid (show rightB 0 S.size l0 = true by rw [← HSZ.out]; exact hR0)
                        obtain ⟨ll, hll⟩ : ∃ ll, ll = l0.length := ⟨_, rfl⟩
                        rw [← hll] at hll0
                        clear hrd hR0 hap0
                        have p1 : IntKind.i64.wrap (((np' + 1 : Nat) : Int) - 1) = (np' : Int) := by rw [IntWalk.i64_in _ (by omega)]; omega
                        have p3 : IntKind.i64.wrap (2 * (ll : Int)) = 2 * (ll : Int) := IntWalk.i64_in _ (by omega)
                        have p4 : IntKind.i64.wrap ((m : Int) + 2 * (ll : Int)) = (m : Int) + 2 * (ll : Int) := IntWalk.i64_in _ (by omega)
                        have u1 : (np' : Int) < ((np' + 1 : Nat) : Int) := by omega
                        have u2 : (np' : Int) ≤ (cf : Int) := by omega
                        have u3 : (0 : Int) ≤ (np' : Int) := by omega
                        have q9 : decide ((0 : Int) < ((np' + 1 : Nat) : Int)) = true := decide_eq_true (by omega)
                        go_wp2_with fail
                        refine (redo_ok _ _ _ _ _ _ _ _ _ _ _ _ HPx.out.h (by have := HPx.out.b.p; omega) (by have := HPx.out.b.m; rw [← hll]; omega)).mono ?_
                        rintro e w4 ⟨B, d, rfl, hst4, P4, F4, hbk⟩
                        have hbN := hbk.below HPx.out.h
                        have hbl4 := below_tr hbx hbN hz1
                        obtain ⟨n4, hh4, hn4, hkb4, _⟩ := hbk
                        have hkt4 := HPx.out.h.kt hkb4
                        have HH4 := Lib.hid hh4; have HST4 := Lib.hid hst4
                        have HO4 := Lib.hid (HPx.out.p.kt hkt4)
                        have HRD4 := Lib.hid (HRD.out.kt hkt4)
                        have HBD := Lib.hid HPx.out.b
                        have hm2 := HPx.out.m2
                        rw [← hll] at hn4 HST4 HH4 ⊢
                        have HLL := Lib.hid hll
                        clear hh4 hst4 hkb4 hkt4 hbN hbx HC0 HPx HRD hll

                        have HD4 := Lib.hid (kt_below ((Below.refl _ w4).alloc (Nat.le_refl _) (.cells #[] 9)))
                        go_wp2_with (at_builtin; refine wpList_app_rd rfl _ _ rfl w4.heap.size (.slice (some ⟨w4.heap.size, 0, none⟩) 0 0) 0 [] rfl (own_empty w4) Ap np cp (strs ps) rfl (HO4.out.kt HD4.out) (by omega) (by simp) ?_)
                        intro v5 w5 hown5 hg5
                        obtain ⟨A5, c5, rfl⟩ := own_form hown5
                        try rw [Nat.zero_add, List.nil_append] at hown5
                        try rw [Nat.zero_add]
                        have hb45 : Below w4.heap.size w4 w5 := ((Below.refl _ w4).alloc (Nat.le_refl _) _).grown hg5 (by simp) (fun g hg => by simp [Value.ownBlock] at hg; omega)
                        have HO5 := Lib.hid hown5
                        have HB45 := Lib.hid hb45
                        have hz45 := hb45.size
                        clear hown5 hg5 hb45 HD4
                        go_wp2_with (at_builtin; refine wpList_app_rd rfl _ _ rfl w4.heap.size (.slice A5 np c5) np _ rfl (HO5.out.alloc _) (some ⟨w5.heap.size, 0, none⟩) 1 1 [S] rfl (RdS.one w5 S) (by omega) (by simp; omega) ?_)
                        intro v6 w6 hown6 hg6
                        obtain ⟨A6, c6, rfl⟩ := own_form hown6
                        have hb46 : Below w4.heap.size w4 w6 := (HB45.out.alloc hz45 _).grown hg6 (by simp; omega) (fun g hg => (HO5.out.lt g hg).1)
                        have HR6 := Lib.hid (show RdS w6 A6 (np + 1) c6 ((strs ps) ++ [S]) from RdS.own (by rw [List.map_append]; exact hown6))
                        have HB46 := Lib.hid hb46
                        have hz46 := hb46.size
                        clear hown6 hg6 hb46 HO5 HB45

                        have hbl6 := below_tr hbl4 HB46.out hbl4.size
                        have HRD6 := Lib.hid (HRD4.out.kt (kt_below HB46.out))
                        obtain ⟨gp', hAp', hcell6, _, _, _⟩ := HRD6.out.pop
                        have hgp : gp' = gp := by injection hAp' with h; injection h with h; exact h.symm
                        subst hgp
                        clear hAp'
                        obtain ⟨hl6, hd1, hd2, hE6⟩ := (HST4.out.kt (kt_below HB46.out)).eds
                        have HL6 := Lib.hid hl6; have HE6 := Lib.hid hE6
                        clear hl6 hE6
                        go_wp2_with fail
                        refine (rright_any S.size B ll d l0 w6 HL6.out hd1 hd2 HE6.out).mono ?_
                        rintro e w7 ⟨rfl, hb7⟩
                        rw [HR0.out]
                        have HE7 := Lib.hid ((HE6.out.below hb7).more hb7.size)
                        have hb67 := HB46.out.trans (hb7.mono hz46)
                        clear HE6 hcell6
                        go_wp2_with fail
                        refine (rapply_any S B ll d l0 w7 HL6.out hd1 hd2 HE7.out HR0.out (by omega)).mono ?_
                        rintro e w8 ⟨rfl, hb8⟩
                        rw [HSD.out, HAP.out]
                        have hb48 := hb67.trans (hb8.mono (by have := hb7.size; omega))
                        have hbl5 := below_tr hbl4 hb48 hbl4.size
                        have hk68 : KT w6 w8 := (kt_below hb7).trans (kt_below hb8)
                        obtain ⟨g9, hg9, hc9, hrdp, hx9, hy9⟩ := HRD4.out.pop
                        clear hg9 hc9 hx9 hy9

                        have HP5 := Lib.hid (show Pl w8 w1.heap.size Bf (k + 1) (m + 2 * ll) t0 A6 (np + 1) c6 (some ⟨gp', 0, none⟩) np' cf P4 F4 (made + ll) n4 ((turn T 0 l0, T) :: ps) fs from ⟨HH4.out.below hb48, by rw [HLL.out]; exact HBD.out.redo _ (by rw [← HLL.out]; exact hll0), by rw [strs_cons, ← HS.out]; exact HR6.out.kt hk68, hrdp.kt (kt_below hb48), by omega, by omega, by omega⟩)
                        clear HRD4 HRD6 HO4 HB46 HR6 HE7 hb67 hb48 hk68 hrdp hbl6 hb7 hb8 HH4 HST4

                        obtain ⟨hnp5, hnf5⟩ := HP5.out.np
                        have hmx1 := HP5.out.m1
                        obtain ⟨mx, hmx⟩ : ∃ mx, mx = max 1 n4 := ⟨_, rfl⟩
                        have hmx0 : 1 ≤ mx := by omega
                        rw [← hmx] at hmx1
                        have HMX := Lib.hid hmx; clear hmx
                        have HNP := Lib.hid hnp5; have HNF := Lib.hid hnf5
                        clear hnp5 hnf5

                        obtain ⟨S5, hS5⟩ : ∃ S5, S5 = (⟨(t0).toArray⟩ : ByteArray) := ⟨_, rfl⟩
                        have hSz5 : (t0).length = S5.size := by rw [hS5]; simp [ByteArray.size]
                        rw [← hS5]
                        have HS5 := Lib.hid hS5; have HSZ5 := Lib.hid hSz5
                        clear hS5 hSz5

                        go_wp2_with fail
                        refine (his_text _ _ _ _ _ _ _ _ _ _ HP5.out.h).mono ?_
                        rintro e w6 ⟨rfl, hb6⟩
                        rw [← HS5.out]
                        have HP6 := Lib.hid (HP5.out.below hb6)
                        have hbl6 := below_tr hbl5 hb6 hbl5.size
                        clear HP5 hbl5 hb6
                        go_wp2_with fail
                        refine (his_len HP6.out.h).mono ?_
                        rintro e w7 ⟨rfl, rfl⟩
                        rw [HSZ5.out]
                        go_wp2_with fail
                        refine (his_past HP6.out.h).mono ?_
                        rintro e w8 ⟨rfl, rfl⟩
                        rw [HNP.out]
                        go_wp2_with fail
                        refine (his_future HP6.out.h).mono ?_
                        rintro e w9 ⟨rfl, rfl⟩
                        rw [HNF.out]
                        have qm1 : decide ((mx : Int) < 1) = false := decide_eq_false (by omega)
                        have qm2 : decide (((m : Int) + 2 * (ll : Int)) < (mx : Int)) = false := decide_eq_false (by omega)
                        go_wp2_with fail
                        refine (his_pieces HP6.out.h).mono ?_
                        rintro e w10 ⟨rfl, rfl⟩
                        rw [← HMX.out]
                        go_wp2_with fail
                        refine (his_pieces HP6.out.h).mono ?_
                        rintro e w11 ⟨rfl, rfl⟩
                        rw [← HMX.out]
                        go_wp2
                        go_roundw
                        case rel => exact ⟨k + 1, (m + 2 * ll), t0, A6, (np + 1), c6, (some ⟨gp', 0, none⟩), np', cf, P4, F4, (made + ll), n4, ((turn T 0 l0, T) :: ps), fs, by omega, by go_num, congrArg _ (by omega), congrArg _ HS5.out, rfl, rfl, HP6.out, hbl6⟩
                        case measure => simp [intOf]; omega
                · as_aux_lemma =>
                    have k0 : (a.k == 0) = false := by rw [beq_eq_false_iff_ne]; exact h0
                    have k1 : (a.k == 1) = false := by rw [beq_eq_false_iff_ne]; exact h1
                    have k2 : (a.k == 2) = false := by rw [beq_eq_false_iff_ne]; exact h2
                    have k3 : (a.k == 3) = false := by rw [beq_eq_false_iff_ne]; exact h3k

                    have HPx := Lib.hid (HPl.out.below ((Below.refl _ wr).alloc (Nat.le_refl _) (.cells #[.int .i64 a.k, .int .i64 a.f, .int .i64 a.t, .string a.s, .slice a.A a.len a.cap] 52)))
                    have hbx := hb.alloc hb.size (.cells #[.int .i64 a.k, .int .i64 a.f, .int .i64 a.t, .string a.s, .slice a.A a.len a.cap] 52)
                    have HC0 := Lib.hid (heap_alloc_new wr (.cells #[.int .i64 a.k, .int .i64 a.f, .int .i64 a.t, .string a.s, .slice a.A a.len a.cap] 52))
                    clear HPl

                    have HP5 := Lib.hid (HPx.out.more (k' := k + 1) (by omega))
                    have hbl5 := hbx
                    clear HPx hbx HC0

                    obtain ⟨hnp5, hnf5⟩ := HP5.out.np
                    have hmx1 := HP5.out.m1
                    obtain ⟨mx, hmx⟩ : ∃ mx, mx = max 1 n := ⟨_, rfl⟩
                    have hmx0 : 1 ≤ mx := by omega
                    rw [← hmx] at hmx1
                    have HMX := Lib.hid hmx; clear hmx
                    have HNP := Lib.hid hnp5; have HNF := Lib.hid hnf5
                    clear hnp5 hnf5

                    go_wp2_with fail
                    refine (his_text _ _ _ _ _ _ _ _ _ _ HP5.out.h).mono ?_
                    rintro e w6 ⟨rfl, hb6⟩
                    rw [← HS.out]
                    have HP6 := Lib.hid (HP5.out.below hb6)
                    have hbl6 := below_tr hbl5 hb6 hbl5.size
                    clear HP5 hbl5 hb6
                    go_wp2_with fail
                    refine (his_len HP6.out.h).mono ?_
                    rintro e w7 ⟨rfl, rfl⟩
                    rw [HSZ.out]
                    go_wp2_with fail
                    refine (his_past HP6.out.h).mono ?_
                    rintro e w8 ⟨rfl, rfl⟩
                    rw [HNP.out]
                    go_wp2_with fail
                    refine (his_future HP6.out.h).mono ?_
                    rintro e w9 ⟨rfl, rfl⟩
                    rw [HNF.out]
                    have qm1 : decide ((mx : Int) < 1) = false := decide_eq_false (by omega)
                    have qm2 : decide ((m : Int) < (mx : Int)) = false := decide_eq_false (by omega)
                    go_wp2_with fail
                    refine (his_pieces HP6.out.h).mono ?_
                    rintro e w10 ⟨rfl, rfl⟩
                    rw [← HMX.out]
                    go_wp2_with fail
                    refine (his_pieces HP6.out.h).mono ?_
                    rintro e w11 ⟨rfl, rfl⟩
                    rw [← HMX.out]
                    go_wp2
                    go_roundw
                    case rel => exact ⟨k + 1, m, T, Ap, np, cp, Af, nf, cf, P, F, made, n, ps, fs, by omega, by go_num, congrArg _ (by omega), congrArg _ HS.out, rfl, rfl, HP6.out, hbl6⟩
                    case measure => simp [intOf]; omega
        · go_wp2
          go_ret
          exact ⟨rfl, hb⟩
end Go.Proofs.Ytpifobaejmfppaa
