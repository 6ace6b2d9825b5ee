/- reach: the walk, up to the first loop. -/
import Derived.Test.YtejdfpieblkapaaGreatDoorG36c
namespace Go.Proofs.YtejdfpieblkapaaGreatDoor
open Go.RowKit Go.Shelf

attribute [local go_sem] Oper.semAt_some

set_option maxRecDepth 100000 in
set_option maxHeartbeats 4000000 in
theorem reach_any (w : World) (m : Value) (rs : List Rx) (s : ByteArray) (h : MI w m rs) (hT : TabH w) (hs : s.size ≤ 1000) (hR0 : rs.length ≤ 1000) :
    Calls Tryz.prog 53 #[m, .string s] w fun e w' => ∃ g us, e = .returned (bsV g (nwd (cntS rs))) ∧ BsAt w' g us ∧ us.length = nwd (cntS rs) ∧ w.heap.size ≤ g ∧ Below w.heap.size w w' ∧ (s.size ≠ 0 → ∀ q, bt us q = true ↔ RcS rs s.data.toList q) := by
  obtain ⟨POST, hPOST⟩ : ∃ POST : Ending → World → Prop, POST = fun e w' => ∃ g us, e = .returned (bsV g (nwd (cntS rs))) ∧ BsAt w' g us ∧ us.length = nwd (cntS rs) ∧ w.heap.size ≤ g ∧ Below w.heap.size w w' ∧ (s.size ≠ 0 → ∀ q, bt us q = true ↔ RcS rs s.data.toList q) := ⟨_, rfl⟩
  have HPOST := Lib.hid hPOST
  rw [← hPOST]
  obtain ⟨pm, rfl⟩ : ∃ pm, m = .pointer pm := by
    rcases h with ⟨rfl, _⟩ | ⟨B, mb, rfl, _⟩
    · exact ⟨_, rfl⟩
    · exact ⟨_, rfl⟩
  have HM := Lib.hid h; have HT := Lib.hid hT
  have hc := h.cnt
  obtain ⟨N, hN⟩ : ∃ N, N = cntS rs := ⟨_, rfl⟩
  obtain ⟨nw, hnw⟩ : ∃ nw, nw = nwd N := ⟨_, rfl⟩
  have hnw2 : nw ≤ 100 := by rw [hnw]; show (N + 63) / 64 ≤ 100; omega
  rw [← hN] at hc
  have HN := Lib.hid hN; have HNW := Lib.hid hnw
  clear hPOST h hT hN hnw
  refine (callsIn_wide (n := 4)).1 ?_
  refine callsIn_of_wp_marks Tryz.func53 rfl trivial ?_ rfl
  simp only [Tryz.ntmps53, List.size_toArray, List.length_cons, List.length_nil, Nat.reduceAdd, Nat.reduceSub, Array.replicate_succ, Array.replicate_zero, List.push_toArray, List.append_toArray, List.nil_append, List.cons_append]
  refine wpIn_wide.2 ?_
  go_upto_region 1 with fail
  rename_i K hK0
  have HK0 := Lib.hid hK0
  clear hK0
  have hb1 := (Below.refl _ w).alloc (Nat.le_refl _) (.cells #[.pointer pm] 28)
  have hx1 := heap_alloc_new w (.cells #[.pointer pm] 28)
  obtain ⟨b2, hb2⟩ : ∃ b2, b2 = w.heap.size := ⟨_, rfl⟩
  rw [← hb2] at hx1 ⊢
  have hs1 : (w.alloc (.cells #[.pointer pm] 28)).heap.size = w.heap.size + 1 := by simp
  generalize w.alloc (.cells #[.pointer pm] 28) = w1 at hb1 hx1 hs1 ⊢
  have HB1 := Lib.hid hb1; have HX1 := Lib.hid hx1; have HB2 := Lib.hid hb2; have HS1 := Lib.hid hs1
  clear hb1 hx1 hb2 hs1
  refine wp_region_inv (fun L a w' => ∃ v14 v15 v16 v17 v18 v19 v5 v6 x5 x6 : Value, a = { tmps := #[.pointer pm, .string s, ptr b2, undef, .slice none 0 0, v5, v6, undef, undef, undef, undef, undef, undef, undef, v14, v15, v16, v17, v18, v19, undef, undef, undef, undef, undef, undef, undef, undef, undef, undef, undef, undef, undef, undef, undef, undef, undef, undef, undef, undef, undef, undef, undef, undef, undef, undef, undef, undef, undef, undef, undef, undef, undef, undef, undef, undef, undef, undef, undef, undef, undef, undef, undef, undef, undef, undef, undef, undef, undef, undef, undef, undef, undef, undef, undef, undef, undef], defers := [] } ∧ R1 w1 w1.heap.size N nw (.pointer pm) L w' v14 v15 v16 v17 v18 v19 v5 v6 x5 x6) (by kernel_rfl) (by kernel_rfl) ?step ?fin ?start
  case start =>
    intro L hL
    have n : ∀ j, j < 10 → ∀ {p : Prop}, L j = true → p := fun j hj p h => by rw [hL j hj] at h; cases h
    exact ⟨undef, undef, undef, undef, undef, undef, undef, undef, undef, undef, rfl, (Below.refl _ w1).drew, n 0 (by omega), n 1 (by omega), n 3 (by omega), n 4 (by omega), n 2 (by omega), n 5 (by omega), n 2 (by omega), n 6 (by omega), n 7 (by omega), n 6 (by omega), n 8 (by omega), n 9 (by omega), n 8 (by omega), n 9 (by omega)⟩
  case step =>
    intro i o L a w2 ho hL haft hI K' hK
    obtain ⟨v14, v15, v16, v17, v18, v19, v5, v6, x5, x6, rfl, hr⟩ := hI
    have HR := Lib.hid hr
    have hB := hr.bl.size
    have HMI := Lib.hid (HM.out.below (HB1.out.trans (hr.bl.mono HB1.out.size)))
    have hcm : w2.cell? ⟨b2, 0, none⟩ = some (.pointer pm) := by rw [Lib.cell_of_heap ((hr.bl.block b2 (by rw [HB2.out, HS1.out]; omega)).trans HX1.out)]; rfl
    have hi : i < 10 := (Array.getElem?_eq_some_iff.1 ho).1
    clear hr
    rcases (show i = 0 ∨ i = 1 ∨ i = 2 ∨ i = 3 ∨ i = 4 ∨ i = 5 ∨ i = 6 ∨ i = 7 ∨ i = 8 ∨ i = 9 by omega) with rfl | rfl | rfl | rfl | rfl | rfl | rfl | rfl | rfl | rfl
    all_goals (replace ho := Option.some.inj ho; subst ho)
    · go_simp
      exact hK.out _ _ ⟨_, _, _, _, _, _, _, _, _, _, rfl, HR.out.s0⟩
    · obtain rfl := HR.out.h0 (haft ⟨0, .data⟩ (by simp) rfl)
      have HL := Lib.hid (len_mi w2 _ rs HMI.out)
      rw [← HN.out] at HL
      go_simp
      go_at_call 17
      refine HL.out.mono ?_
      rintro e w3 ⟨rfl, rfl⟩
      exact hK.out _ _ ⟨_, _, _, _, _, _, _, _, _, _, rfl, HR.out.s1⟩
    · obtain rfl := HR.out.h1 (haft ⟨1, .data⟩ (by simp) rfl)
      have HL := Lib.hid (bs_new w2 N (by omega))
      rw [show (N + 63) / 64 = nw from HNW.out.symm] at HL
      go_simp
      go_at_call 49
      refine HL.out.mono ?_
      rintro e w3 ⟨rfl, hz, hb⟩
      exact hK.out _ _ ⟨_, _, _, _, _, _, _, _, _, _, rfl, HR.out.s2 hL hB hz hb⟩
    · go_simp
      exact hK.out _ _ ⟨_, _, _, _, _, _, _, _, _, _, rfl, HR.out.s3⟩
    · obtain rfl := HR.out.h3 (haft ⟨3, .data⟩ (by simp) rfl)
      have HL := Lib.hid (len_mi w2 _ rs HMI.out)
      rw [← HN.out] at HL
      go_simp
      go_at_call 17
      refine HL.out.mono ?_
      rintro e w3 ⟨rfl, rfl⟩
      exact hK.out _ _ ⟨_, _, _, _, _, _, _, _, _, _, rfl, HR.out.s4⟩
    · obtain rfl := HR.out.h4 (haft ⟨4, .data⟩ (by simp) rfl)
      have HL := Lib.hid (bs_new w2 N (by omega))
      rw [show (N + 63) / 64 = nw from HNW.out.symm] at HL
      go_simp
      go_at_call 49
      refine HL.out.mono ?_
      rintro e w3 ⟨rfl, hz, hb⟩
      exact hK.out _ _ ⟨_, _, _, _, _, _, _, _, _, _, rfl, HR.out.s5 hL hB hz hb⟩
    · go_simp
      exact hK.out _ _ ⟨_, _, _, _, _, _, _, _, _, _, rfl, HR.out.s6 hL hB _⟩
    · go_simp
      exact hK.out _ _ ⟨_, _, _, _, _, _, _, _, _, _, rfl, HR.out.s7 hL hB _⟩
    · have l6 := haft ⟨6, .data⟩ (by simp) rfl
      have l2 := haft ⟨2, .data⟩ (by simp) rfl
      have l7 := haft ⟨7, .phase⟩ (by simp) rfl
      obtain ⟨b, rfl, hbB, hbx⟩ := HR.out.h6 l6
      have c1 : w2.cell? ⟨b, 0, none⟩ = some x5 := by rw [Lib.cell_of_heap hbx]; rfl
      have f1 : w2.frozen? ⟨b, 0, none⟩ = false := Lib.frozen_of_heap hbx 0
      obtain ⟨g, rfl, _, _⟩ := HR.out.h2 l2
      have HFIN := Lib.hid (HR.out.s8 l2 l6 l7 hbB hbx)
      clear hbx haft
      go_simp
      exact hK.out _ _ ⟨_, _, _, _, _, _, _, _, _, _, rfl, HFIN.out⟩
    · have l6 := haft ⟨6, .phase⟩ (by simp) rfl
      have l5 := haft ⟨5, .data⟩ (by simp) rfl
      have l7 := haft ⟨7, .data⟩ (by simp) rfl
      obtain ⟨b, rfl, hbB, hbx⟩ := HR.out.h7 l7
      have c1 : w2.cell? ⟨b, 0, none⟩ = some x6 := by rw [Lib.cell_of_heap hbx]; rfl
      have f1 : w2.frozen? ⟨b, 0, none⟩ = false := Lib.frozen_of_heap hbx 0
      obtain ⟨g, rfl, _, _⟩ := HR.out.h5 l5
      have HFIN := Lib.hid (HR.out.s9 l5 l6 l7 hbB hbx)
      clear hbx haft
      go_simp
      exact hK.out _ _ ⟨_, _, _, _, _, _, _, _, _, _, rfl, HFIN.out⟩
  case fin =>
    rintro L a w2 ⟨v14, v15, v16, v17, v18, v19, v5, v6, x5, x6, rfl, hr⟩ hall
    have ht : ∀ j, j < 10 → L j = true := fun j hj => hall j hj
    obtain rfl := hr.h0 (ht 0 (by omega))
    obtain rfl := hr.h1 (ht 1 (by omega))
    obtain rfl := hr.h3 (ht 3 (by omega))
    obtain rfl := hr.h4 (ht 4 (by omega))
    obtain ⟨ga, rfl, hza, hga⟩ := hr.h2 (ht 2 (by omega))
    obtain ⟨gh, rfl, hzh, hgh⟩ := hr.h5 (ht 5 (by omega))
    have hgg : ga ≠ gh := fun e => hr.d (ht 2 (by omega)) (ht 5 (by omega)) (by rw [e])
    obtain ⟨ba, rfl, hba, hxa⟩ := hr.h6 (ht 6 (by omega))
    obtain ⟨bh, rfl, hbh, hxh⟩ := hr.h7 (ht 7 (by omega))
    have hbb : ba ≠ bh := fun e => hr.e (ht 6 (by omega)) (ht 7 (by omega)) (by rw [e])
    obtain rfl := hr.h8 (ht 8 (by omega))
    obtain rfl := hr.h9 (ht 9 (by omega))
    have hbl := hr.bl
    clear hr hall ht
    refine HK0.out _ _ ?_
    clear HK0 K
    have HF : Hid (RcF w w2 (.pointer pm) b2 ba bh ga gh nw (List.replicate nw 0) (List.replicate nw 0)) := Lib.hid ⟨HB1.out.trans (hbl.mono HB1.out.size), (hbl.block b2 (by rw [HB2.out, HS1.out]; omega)).trans HX1.out, hxa, hxh, hza, by simp, hzh, by simp, by have := HS1.out; omega, by have := HS1.out; omega, hgg⟩
    clear hbl hza hzh hxa hxh hga hgh hgg hba hbh hbb HX1 HB2 HB1 HS1
    obtain ⟨R, hR⟩ : ∃ R, R = rs.length := ⟨_, rfl⟩
    have HRU := Lib.hid (rules_mi w2 _ rs (HM.out.below HF.out.bl))
    rw [← hR] at HRU hR0
    have HRL := Lib.hid hR
    clear hR
    have hcm := HF.out.cm rfl
    go_wp2_with fail
    refine HRU.out.mono ?_
    rintro e w3 ⟨rfl, rfl⟩
    clear hcm HRU
    have HF0 : Hid (∃ H, RcF w w3 (.pointer pm) b2 ba bh ga gh nw (List.replicate nw 0) H ∧ ∀ q, bt H q = true ↔ FsK rs 0 q) := Lib.hid ⟨_, HF.out, fun q => ⟨fun h => absurd h (bt_zero _ _), fun h => absurd h (FsK.zero _ _)⟩⟩
    clear HF
    go_wp2_with fail
    go_loopw [22] (fun i wr => ∃ k : Nat, k ≤ R ∧ i = .int .i64 k ∧ Hid (∃ H, RcF w wr (.pointer pm) b2 ba bh ga gh nw (List.replicate nw 0) H ∧ ∀ q, bt H q = true ↔ FsK rs k q)) (fun i _ => R - (intOf i).toNat)
    case atStart => exact ⟨0, Nat.zero_le _, rfl, HF0⟩
    case round =>
      clear HF0
      obtain ⟨k, hk, rfl, HF⟩ := hrel
      by_cases hlt : k < R
      · have hki : (k : Int) < R := by omega
        have hk0 : (0 : Int) ≤ k := by omega
        obtain ⟨H, hF, hH⟩ := HF.out
        clear HF
        rcases HM.out with ⟨_, hnil⟩ | ⟨B, mb, hpm, hms⟩
        · exfalso; have := HRL.out; rw [hnil] at this; simp at this; omega
        · injection hpm with hpm
          subst hpm
          obtain ⟨l, hl⟩ : ∃ l, (fstS rs 0)[k]? = some l := ⟨_, List.getElem?_eq_getElem (by rw [fstS_len, ← HRL.out]; exact hlt)⟩
          have hll := (fstS_get hl).2
          obtain ⟨gf, cf, c', A', c3, hcap, hcap2, hci, hns⟩ := hms.row hl (by rw [← HRL.out]; exact hR0)
          replace c3 := cell_below hF.bl c3
          replace hci := cell_below hF.bl hci
          rw [← HRL.out] at c3 hcap
          have HNS := Lib.hid hns
          have HL := Lib.hid hl; have HHQ := Lib.hid hH; have HLT := Lib.hid (fun q hq => (fstS_own hl q hq).1)
          obtain ⟨nl, hnl⟩ : ∃ nl, nl = l.length := ⟨_, rfl⟩
          rw [← hnl] at hll hci
          have HNL := Lib.hid hnl
          have hnl2 : nl ≤ 2000 := by rw [← HN.out] at hll; omega
          have hcm := hF.cm rfl
          have HF := Lib.hid hF
          clear hms hl hF hH hns hnl hll
          go_wp2_with fail
          rename_i KO hKO KI hKI
          have HKI := Lib.hid hKI
          clear hKI
          have HS : Hid (∃ H', RcF w wr (ptr mb) b2 ba bh ga gh nw (List.replicate nw 0) H' ∧ ∀ q, bt H' q = true ↔ FsK rs k q ∨ q ∈ l.take 0) := Lib.hid ⟨H, HF.out, fun q => by rw [HHQ.out q]; simp⟩
          clear HF HHQ hcm c3 hci
          go_loopw [33] (fun i wq => ∃ k2 : Nat, k2 ≤ nl ∧ i = .int .i64 k2 ∧ Hid (∃ H', RcF w wq (ptr mb) b2 ba bh ga gh nw (List.replicate nw 0) H' ∧ ∀ q, bt H' q = true ↔ FsK rs k q ∨ q ∈ l.take k2)) (fun i _ => nl - (intOf i).toNat)
          case atStart => exact ⟨0, Nat.zero_le _, rfl, HS⟩
          case round =>
            clear HS
            obtain ⟨k2, hk2, rfl, HG⟩ := hrel
            by_cases hlt2 : k2 < nl
            · have hki2 : (k2 : Int) < nl := by omega
              have hk02 : (0 : Int) ≤ k2 := by omega
              obtain ⟨H', hF, hH⟩ := HG.out
              clear HG
              obtain ⟨x, hx⟩ : ∃ x, l[k2]? = some x := ⟨_, List.getElem?_eq_getElem (by rw [← HNL.out]; exact hlt2)⟩
              have hxN := HLT.out x (List.mem_of_getElem? hx)
              obtain ⟨g', rfl, cx⟩ := (HNS.out.below hF.bl).get hx
              have hch := hF.ch
              have hx1 : x / 64 < H'.length := by rw [hF.lh, HNW.out]; exact nwd_div (by rw [HN.out]; exact hxN)
              have HAD := Lib.hid (bs_add wr gh x nw H' hF.sh hF.lh.symm hx1 (by have := HN.out; omega))
              have HX := Lib.hid (fun q => bt_add H' x q hx1)
              have HLL := Lib.hid (show (H'.set (x / 64) (H'[x / 64] ||| 2 ^ (x % 64))).length = nw by rw [List.length_set]; exact hF.lh)
              generalize H'.set (x / 64) (H'[x / 64] ||| 2 ^ (x % 64)) = H2 at HAD HX HLL
              have HTM := Lib.hid (fun q => take_mem hx q)
              have HF := Lib.hid hF; have HHQ := Lib.hid hH
              clear hx hx1 hF hH hxN
              go_wp2_with fail
              refine HAD.out.mono ?_
              rintro e wx ⟨rfl, hz, hkb⟩
              have HG2 : Hid (∃ H', RcF w wx (ptr mb) b2 ba bh ga gh nw (List.replicate nw 0) H' ∧ ∀ q, bt H' q = true ↔ FsK rs k q ∨ q ∈ l.take (k2 + 1)) := Lib.hid ⟨H2, HF.out.setH hkb hz HLL.out, fun q => by
                rw [HX.out q, Bool.or_eq_true, HHQ.out q, HTM.out q, decide_eq_true_eq, or_assoc]⟩
              clear hz hkb HAD HX HLL HTM HF HHQ cx hch
              go_wp2_with fail
              go_roundw
              case rel => exact ⟨k2 + 1, by omega, by go_num, HG2⟩
              case measure => simp [intOf]; omega
            · obtain rfl : k2 = nl := by omega
              have HG2 : Hid (∃ H, RcF w wr (ptr mb) b2 ba bh ga gh nw (List.replicate nw 0) H ∧ ∀ q, bt H q = true ↔ FsK rs (k + 1) q) := by
                obtain ⟨H', hF, hH⟩ := HG.out
                exact Lib.hid ⟨H', hF, fun q => by rw [hH q, FsK.succ HL.out, HNL.out, List.take_length]⟩
              clear HG
              go_wp2_with fail
              refine HKI.out _ _ ?_
              go_wp2_with fail
              go_roundw
              case rel => exact ⟨k + 1, by omega, by go_num, HG2⟩
              case measure => simp [intOf]; omega
      · obtain rfl : k = R := by omega
        have HF1 : Hid (∃ H, RcF w wr (.pointer pm) b2 ba bh ga gh nw (List.replicate nw 0) H ∧ ∀ q, bt H q = true ↔ FsS rs q) := by
          obtain ⟨H, hF, hH⟩ := HF.out
          exact Lib.hid ⟨H, hF, fun q => by rw [hH q, HRL.out, FsK.all]⟩
        clear HF
        obtain ⟨cp, w4, hconv, hcp1, hcp2, hb4, C, fz, hC, hCi⟩ := conv_bytes s wr (by omega)
        obtain ⟨sz, hsz⟩ : ∃ sz, sz = s.size := ⟨_, rfl⟩
        obtain ⟨gs, hgs⟩ : ∃ gs, gs = wr.heap.size := ⟨_, rfl⟩
        obtain ⟨L, hL⟩ : ∃ L, L = s.data.toList := ⟨_, rfl⟩
        rw [← hgs, ← hsz] at hconv
        rw [← hgs] at hC
        rw [← hsz] at hcp1 hs
        rw [← hL] at hCi
        have hLs : L.length = sz := by rw [hL, hsz]; simp
        have HLS := Lib.hid hLs; have HSZ := Lib.hid hsz; have HL := Lib.hid hL; have HCI := Lib.hid hCi
        have HR4 : Hid (RcL w w4 rs (.pointer pm) b2 ba bh ga gh nw gs C fz L 0 []) := by
          obtain ⟨H, hF, hH⟩ := HF1.out
          exact Lib.hid ⟨_, H, hF.below hb4, fun q => by rw [List.take_zero, AhS.nil]; exact hH q, fun h => absurd rfl h, hC, List.nodup_nil, fun D hD => by cases hD⟩
        clear HF1 hb4 hC hLs hsz hL hCi hgs
        go_wp2_with fail
        refine wp_loop (fun a' wr => ∃ (i : Nat) (v11 v46 v47 v48 v49 v50 v51 v60 v61 v62 v63 v64 v75 : Value) (Ds : List Nat), a' = { tmps := #[.pointer pm, .string s, ptr b2, undef, .slice none 0 0, ptr ba, ptr bh, u7, undef, u9, undef, v11, undef, undef, .pointer pm, .int .i64 N, bsV ga nw, .pointer pm, .int .i64 N, bsV gh nw, .pointer pm, .int .i64 k, .int .i64 k, .bool false, u24, u25, u26, u27, u28, u29, u30, u31, u32, u33, u34, u35, u36, u37, u38, u39, u40, u41, .string s, .slice (some ⟨gs, 0, none⟩) sz cp, .int .i64 sz, .int .i64 i, v46, v47, v48, v49, v50, v51, undef, undef, undef, undef, undef, undef, undef, undef, v60, v61, v62, v63, v64, undef, undef, undef, undef, undef, undef, undef, undef, undef, undef, v75, undef], defers := Ds.map mrk } ∧ i ≤ sz ∧ Hid (RcL w wr rs (.pointer pm) b2 ba bh ga gh nw gs C fz L i Ds)) (fun a' _ => sz - (intOf (a'.tmps.getD 45 undef)).toNat) ?start2 ?round2
        case start2 => exact ⟨0, _, _, _, _, _, _, _, _, _, _, _, _, _, [], rfl, Nat.zero_le _, HR4⟩
        case round2 =>
          clear HR4
          rintro a wr ⟨i, v11, v46, v47, v48, v49, v50, v51, v60, v61, v62, v63, v64, v75, Ds, rfl, hi, HR⟩
          try dsimp only
          rename_i KE hKE
          have HKE := Lib.hid hKE
          clear hKE
          obtain ⟨A, H, hF, hH, hA, hC, hDn, hD⟩ := HR.out
          clear HR
          by_cases hlt : i < sz
          · have hki : (i : Int) < sz := by omega
            have hk0 : (0 : Int) ≤ i := by omega
            obtain ⟨c, hc0⟩ : ∃ c, L[i]? = some c := ⟨_, List.getElem?_eq_getElem (by rw [HLS.out]; exact hlt)⟩
            have hcell : wr.cell? ⟨gs, i, none⟩ = some (.int .u8 c.toNat) := by rw [Lib.cell_of_heap hC]; exact HCI.out i c hc0
            have htk : L.take (i + 1) = L.take i ++ [c] := by rw [List.take_add_one, hc0]; rfl
            obtain ⟨nc, hnc⟩ : ∃ nc, nc = c.toNat := ⟨_, rfl⟩
            rw [← hnc] at hcell
            have hnc2 : nc < 256 := by rw [hnc]; exact c.toNat_lt
            have HNC := Lib.hid hnc; have HTK := Lib.hid htk
            have HF := Lib.hid hF; have HH := Lib.hid hH; have HC := Lib.hid hC; have HDN := Lib.hid hDn; have HD := Lib.hid hD
            clear hc0 hnc htk hF hH hA hC hDn hD
            go_upto_region 14 with fail
            rename_i KB hKB
            have HKB := Lib.hid hKB
            clear hKB
            have hal5 := (Below.refl _ wr).alloc (Nat.le_refl _) (.cells #[.int .u8 nc] 5)
            have hx5 := heap_alloc_new wr (.cells #[.int .u8 nc] 5)
            obtain ⟨bc, hbc⟩ : ∃ bc, bc = wr.heap.size := ⟨_, rfl⟩
            rw [← hbc] at hx5 ⊢
            generalize wr.alloc (.cells #[.int .u8 nc] 5) = w5 at hal5 hx5 ⊢
            have hF5 := HF.out.below hal5
            have hO5 : OT w w5 bc nc gs C fz Ds := ⟨hx5, (hal5.block _ (lt_of_heap HC.out)).trans HC.out, HDN.out, fun D h => ⟨(hal5.block _ (lt_of_heap (HD.out D h).1)).trans (HD.out D h).1, (HD.out D h).2⟩⟩
            have hclr := run_clear w5 ga nw A hF5.sa hF5.la
            have hk6 := kb_setCells ga (List.replicate nw (.int .u64 0)) 0 w5
            have hO6 := hO5.kb hF5.sa hk6
            have hF6 := hF5.setA hk6 (hF5.sa.cleared hF5.la) (by simp)
            have hca := hF5.ca
            have HO6 := Lib.hid hO6; have HF6 := Lib.hid hF6
            clear hal5 hx5 hF5 hO5 hO6 hF6 hk6 HF HC HDN HD hcell hbc
            go_wp2_with fail
            refine HKB.out _ _ ?_
            clear HKB
            generalize w5.setCells ga 0 (List.replicate nw (.int .u64 0)) = w6 at HO6 HF6 ⊢
            clear hclr hca
            have hch := HF6.out.ch
            have HALL := Lib.hid (all_any w6 gh nw)
            go_wp2_with fail
            refine HALL.out.mono ?_
            rintro e w7 ⟨rfl, hw7⟩
            have hal7 := (Below.refl _ w6).alloc (Nat.le_refl _) (.cells #[bsV gh nw] 87)
            have hx7 := heap_alloc_new w6 (.cells #[bsV gh nw] 87)
            obtain ⟨Bn, hBn⟩ : ∃ Bn, Bn = w6.heap.size := ⟨_, rfl⟩
            rw [← hBn] at hx7 ⊢
            rw [← hw7] at hal7 hx7
            have HF7 := Lib.hid (HF6.out.below hal7)
            have HO7 := Lib.hid (HO6.out.below hal7)
            have HX7 := Lib.hid hx7
            have HT7 := Lib.hid (HT.out.keep (I := fun _ => True) (KeepI.below HF7.out.bl) trivial)
            clear hal7 hx7 hBn hw7 HALL hch HF6 HO6
            go_wp2_with fail
            have h0a : 0 < ga := by
              obtain ⟨_, _, _, h0, _⟩ := HT.out
              have := lt_of_heap h0
              have := HF7.out.ge.1
              omega
            refine (wpIn_wide (n := 4)).1 ?_
            refine wpIn_rangeFunc_ownG rfl (by decide) (gf := 90) (lb := #[ptr Bn]) rfl trivial (enters_of Tryz.func90 (by kernel_rfl) rfl)
              (all_stops_el (4 - 1) (by decide) Bn gh nw H (fun k => k = gh ∨ k = 0) ⟨.inl rfl, .inr rfl⟩ HF7.out.lh.symm (by omega) w7 (lt_of_heap HX7.out) (by rw [Lib.cell_of_heap HX7.out]; rfl) HF7.out.sh HT7.out) KeepI.trans (fun W l o o' _ ho hc _ => KeepI.put _ W l o o' ho hc) (Below.refl _ _) (fun _ => rfl)
              (fun pre W => Kb (fun i => i = ga) w7 W ∧ ∃ A', BsAt W ga A' ∧ A'.length = nw ∧ ∀ q, bt A' q = true ↔ (∃ x ∈ pre, x.1 = (q : Int)) ∧ hsS rs q c = true)
              (fun _ _ _ => False)
              (OwnFrom.and (ownFrom_kb (Nat.le_refl _)) ownFrom_bs)
              (fun _ _ _ _ _ hs _ _ => hs)
              ⟨Kb.refl _ _, _, HF7.out.sa, HF7.out.la, fun q => ⟨fun h => absurd h (bt_zero _ _), fun h => by obtain ⟨⟨x, hx, _⟩, _⟩ := h; cases hx⟩⟩
              (fun x => { tmps := #[.pointer pm, .string s, ptr b2, undef, .slice none 0 0, ptr ba, ptr bh, u7, undef, u9, undef, ptr bc, .int .i64 x.1, undef, .pointer pm, .int .i64 N, bsV ga nw, .pointer pm, .int .i64 N, bsV gh nw, .pointer pm, .int .i64 k, .int .i64 k, .bool false, u24, u25, u26, u27, u28, u29, u30, u31, u32, u33, u34, u35, u36, u37, u38, u39, u40, u41, .string s, .slice (some ⟨gs, 0, none⟩) sz cp, .int .i64 sz, .int .i64 i, .bool true, .pointer (some ⟨gs, i, none⟩), .int .u8 nc, bsV ga nw, bsV gh nw, .func (.func 90) #[] #[ptr Bn], .int .i64 x.1, undef, undef, undef, undef, undef, undef, undef, v60, v61, v62, v63, v64, undef, undef, undef, undef, undef, undef, undef, undef, undef, undef, v75, undef], defers := [] }) ?assign1 ?body1 ?done1 ?stop1
            case assign1 =>
              intro l x W K hK
              gi_wp2
              exact hK
            case stop1 =>
              rintro D c pre W _ _ h _
              exact h.elim
            case body1 =>
              clear HKE
              rintro l pre ⟨xv, hxm⟩ W ⟨hk, A', hz, hl, hq⟩ hlt
              obtain ⟨q, rfl, hbq⟩ := (sbits_get HF7.out.lh HF7.out.sh.2 xv).1 hxm
              have hqN := ((HH.out q).1 hbq).lt
              have hFW := HF7.out.setA hk hz hl
              have hOW := HO7.out.kb HF7.out.sa hk
              obtain ⟨B, mb, hpm, hms⟩ := HM.out.some hqN
              subst hpm
              have hcm := hFW.cm rfl
              have hcc : W.cell? ⟨bc, 0, none⟩ = some (.int .u8 nc) := by rw [Lib.cell_of_heap hOW.c]; rfl
              have hca := hFW.ca
              have HHAS := Lib.hid (has_yes W B mb rs (hms.below hFW.bl) q hqN c)
              rw [← HNC.out] at HHAS
              have hx1 : q / 64 < A'.length := by rw [hl, HNW.out]; exact nwd_div (by rw [HN.out]; exact hqN)
              have HAD := Lib.hid (bs_add W ga q nw A' hz hl.symm hx1 (by have := HN.out; omega))
              have HX := Lib.hid (fun p => bt_add A' q p hx1)
              have HLL := Lib.hid (show (A'.set (q / 64) (A'[q / 64] ||| 2 ^ (q % 64))).length = nw by rw [List.length_set]; exact hl)
              generalize A'.set (q / 64) (A'[q / 64] ||| 2 ^ (q % 64)) = A2 at HAD HX HLL
              have HK := Lib.hid hk; have HZ := Lib.hid hz; have HQ := Lib.hid hq; have HL0 := Lib.hid hl
              have hI : ∀ k, (k = gh ∨ k = 0) → k ≠ ga := by
                have := HF7.out.ge.2.2
                rintro k (rfl | rfl) <;> omega
              have HI := Lib.hid hI
              obtain ⟨β, hβ⟩ : ∃ β, β = hsS rs q c := ⟨_, rfl⟩
              rw [← hβ] at HHAS
              have HB := Lib.hid hβ
              dsimp only
              generalize hxe : (⟨(q : Int), hxm⟩ : {x : Int // x ∈ sbits H nw}) = x1
              have HXE := Lib.hid (show x1.1 = (q : Int) by rw [← hxe])
              clear hxe hk hz hl hq hx1 hFW hOW hms hI hβ hxm hbq hqN hlt
              have hmem : ∀ p : Nat, (∃ x ∈ pre ++ [x1], x.1 = (p : Int)) ↔ (∃ x ∈ pre, x.1 = (p : Int)) ∨ p = q := fun p => by
                constructor
                · rintro ⟨x, hx, e⟩
                  rcases List.mem_append.1 hx with hx | hx
                  · exact .inl ⟨x, hx, e⟩
                  · simp at hx
                    rw [hx, HXE.out] at e
                    exact .inr (by omega)
                · rintro (⟨x, hx, e⟩ | rfl)
                  · exact ⟨x, by simp [hx], e⟩
                  · exact ⟨x1, by simp, HXE.out⟩
              have HMEM := Lib.hid hmem
              clear hmem
              cases β with
              | true =>
                gi_wp2_with (first | (refine ⟨trivial, ?_⟩; gi_at_call 22; refine (CallsIn.inRound l (callsIn_wide.2 HHAS.out)).mono ?_; rintro e W1 ⟨rfl, rfl⟩) | (refine ⟨trivial, ?_⟩; gi_at_call 85; refine (CallsIn.inRound l (callsIn_wide.2 HAD.out)).mono ?_; rintro e W2 ⟨rfl, hz2, hk2⟩))
                exact ⟨keeps_kb HZ.out hk2, keepI_kb HI.out hk2, HK.out.trans hk2 (fun _ _ h => h), A2, hz2, HLL.out, fun p => by
                  rw [HX.out p, Bool.or_eq_true, HQ.out p, decide_eq_true_eq, HMEM.out p]
                  constructor
                  · rintro (⟨a, b⟩ | rfl)
                    · exact ⟨.inl a, b⟩
                    · exact ⟨.inr rfl, HB.out.symm⟩
                  · rintro ⟨a | rfl, b⟩
                    · exact .inl ⟨a, b⟩
                    · exact .inr rfl⟩
              | false =>
                gi_wp2_with (first | (refine ⟨trivial, ?_⟩; gi_at_call 22; refine (CallsIn.inRound l (callsIn_wide.2 HHAS.out)).mono ?_; rintro e W1 ⟨rfl, rfl⟩))
                exact ⟨KeepsFrom.refl _ _, KeepI.refl _ _, HK.out, A', HZ.out, HL0.out, fun p => by
                  rw [HQ.out p, HMEM.out p]
                  constructor
                  · rintro ⟨a, b⟩
                    exact ⟨.inl a, b⟩
                  · rintro ⟨a | rfl, b⟩
                    · exact ⟨a, b⟩
                    · rw [← HB.out] at b; cases b⟩
            case done1 =>
              rintro D ys W hD hys ⟨hk, A', hz, hl, hq⟩ hK
              have hFW := HF7.out.setA hk hz hl
              have hOW := HO7.out.more hD HF7.out.bl.size (HO7.out.kb HF7.out.sa hk) hK
              have hA : ∀ q, bt A' q = true ↔ RcS rs (L.take (i + 1)) q := fun q => by
                rw [hq q, HTK.out, RcS.of_ah, ← HH.out q]
                have hy : (∃ x ∈ ys, x.1 = (q : Int)) ↔ bt H q = true := by
                  have h1 : (∃ x ∈ ys, x.1 = (q : Int)) ↔ (q : Int) ∈ ys.map (·.1) := by simp
                  rw [h1, hys, sbits_get HF7.out.lh HF7.out.sh.2]
                  constructor
                  · rintro ⟨q', e, h⟩
                    rw [show q = q' by omega]; exact h
                  · intro h; exact ⟨q, rfl, h⟩
                rw [hy]
              have HNO := Lib.hid (none_any W ga nw A' hz hl (by omega))
              obtain ⟨β, hβ⟩ : ∃ β, β = A'.all (· == 0) := ⟨_, rfl⟩
              rw [← hβ] at HNO
              have HBE := Lib.hid hβ
              have HFW := Lib.hid hFW; have HOW := Lib.hid hOW; have HA := Lib.hid hA
              have hca := hFW.ca
              have hch := hFW.ch
              have hclr := run_clear W gh nw H hFW.sh hFW.lh
              clear hk hz hl hq hK hys hD hFW hOW hA HF7 HO7 HX7 HT7 hβ
              go_wp2_with fail
              refine HNO.out.mono ?_
              rintro e W1 ⟨rfl, rfl⟩
              clear HNO
              cases β with
              | true =>
                clear hclr hch
                go_wp2_with fail
                refine HKE.out _ _ ?_
                go_wp2_with fail
                refine leaves_marks (D :: Ds) W1 HOW.out.n (fun E hE => (HOW.out.d E hE).1) (fun w' hk' => ?_)
                obtain ⟨f1, f2⟩ := fin_post HFW.out HOW.out.d hk'
                have hp := HPOST.out
                subst hp
                refine ⟨_, results_tmp rfl _ _ _, ga, A', by rw [← HN.out, ← HNW.out]; rfl, f1, by rw [← HN.out, ← HNW.out]; exact HFW.out.la, HFW.out.ge.1, f2, fun _ q => ?_⟩
                have hz := all_zero_bt HBE.out.symm
                have hn : ∀ q, ¬ RcS rs (L.take (i + 1)) q := fun q hr => by
                  have := (HA.out q).2 hr
                  rw [hz q] at this; cases this
                rw [hz q, ← HL.out, ← List.take_append_drop (i + 1) L]
                constructor
                · intro h; cases h
                · intro h; exact absurd h (RcS.dead rs _ (by rw [HTK.out]; simp) hn _ q)
              | false =>
                go_upto_region 21 with fail
                rename_i KG hKG
                have HKG := Lib.hid hKG
                clear hKG
                have hk2 := kb_setCells gh (List.replicate nw (.int .u64 0)) 0 W1
                have hF2 := HFW.out.setH hk2 (HFW.out.sh.cleared HFW.out.lh) (by simp)
                have hO2 := HOW.out.kb HFW.out.sh hk2
                generalize W1.setCells gh 0 (List.replicate nw (.int .u64 0)) = W2 at hk2 hF2 hO2 ⊢
                have HF2 := Lib.hid hF2; have HO2 := Lib.hid hO2
                have hca2 := hF2.ca
                clear hk2 hF2 hO2 hclr hch hca HFW HOW
                have HALL := Lib.hid (all_any W2 ga nw)
                go_wp2_with fail
                refine HALL.out.mono ?_
                rintro e w9 ⟨rfl, hw9⟩
                have hal9 := (Below.refl _ W2).alloc (Nat.le_refl _) (.cells #[bsV ga nw] 87)
                have hx9 := heap_alloc_new W2 (.cells #[bsV ga nw] 87)
                obtain ⟨Bm, hBm⟩ : ∃ Bm, Bm = W2.heap.size := ⟨_, rfl⟩
                rw [← hBm] at hx9 ⊢
                rw [← hw9] at hal9 hx9
                have HF9 := Lib.hid (HF2.out.below hal9)
                have HO9 := Lib.hid (HO2.out.below hal9)
                have HX9 := Lib.hid hx9
                have HT9 := Lib.hid (HT.out.keep (I := fun _ => True) (KeepI.below HF9.out.bl) trivial)
                clear hal9 hx9 hBm hw9 HALL hca2 HF2 HO2
                go_wp2_with fail
                refine HKG.out _ _ ?_
                clear HKG
                go_wp2_with fail
                refine (wpIn_wide (n := 4)).1 ?_
                refine wpIn_rangeFunc_ownG rfl (by decide) (gf := 90) (lb := #[ptr Bm]) rfl trivial (enters_of Tryz.func90 (by kernel_rfl) rfl)
                  (all_stops_el (4 - 1) (by decide) Bm ga nw A' (fun k => k = ga ∨ k = 0) ⟨.inl rfl, .inr rfl⟩ HF9.out.la.symm (by omega) w9 (lt_of_heap HX9.out) (by rw [Lib.cell_of_heap HX9.out]; rfl) HF9.out.sa HT9.out) KeepI.trans (fun W l o o' _ ho hc _ => KeepI.put _ W l o o' ho hc) (Below.refl _ _) (fun _ => rfl)
                  (fun pre W => Kb (fun i => i = gh) w9 W ∧ ∃ H', BsAt W gh H' ∧ H'.length = nw ∧ ∀ p, bt H' p = true ↔ ∃ x ∈ pre, ∃ q : Nat, x.1 = (q : Int) ∧ folS rs 0 q p = true)
                  (fun _ _ _ => False)
                  (OwnFrom.and (ownFrom_kb (Nat.le_refl _)) ownFrom_bs)
                  (fun _ _ _ _ _ hs _ _ => hs)
                  ⟨Kb.refl _ _, _, HF9.out.sh, HF9.out.lh, fun q => ⟨fun h => absurd h (bt_zero _ _), fun h => by obtain ⟨x, hx, _⟩ := h; cases hx⟩⟩
                  (fun x => { tmps := #[.pointer pm, .string s, ptr b2, undef, .slice none 0 0, ptr ba, ptr bh, u7, undef, u9, undef, ptr bc, undef, .int .i64 x.1, .pointer pm, .int .i64 N, bsV ga nw, .pointer pm, .int .i64 N, bsV gh nw, .pointer pm, .int .i64 k, .int .i64 k, .bool false, u24, u25, u26, u27, u28, u29, u30, u31, u32, u33, u34, u35, u36, u37, u38, u39, u40, u41, .string s, .slice (some ⟨gs, 0, none⟩) sz cp, .int .i64 sz, .int .i64 i, .bool true, .pointer (some ⟨gs, i, none⟩), .int .u8 nc, bsV ga nw, bsV gh nw, .func (.func 90) #[] #[ptr Bn], undef, undef, undef, undef, undef, undef, undef, undef, bsV ga nw, .bool false, bsV gh nw, bsV ga nw, .func (.func 90) #[] #[ptr Bm], .int .i64 x.1, undef, undef, undef, undef, undef, undef, undef, undef, undef, v75, undef], defers := [] }) ?assign2 ?body2 ?done2 ?stop2
                case assign2 =>
                  intro l x W K hK
                  gi_wp2
                  exact hK
                case stop2 =>
                  rintro D c pre W _ _ h _
                  exact h.elim
                case body2 =>
                  clear HKE
                  rintro l pre ⟨xv, hxm⟩ W ⟨hk, H', hz, hl, hq⟩ hlt
                  obtain ⟨q, rfl, hbq⟩ := (sbits_get HF9.out.la HF9.out.sa.2 xv).1 hxm
                  have hqN := ((HA.out q).1 hbq).lt
                  have hFW := HF9.out.setH hk hz hl
                  obtain ⟨B, mb, hpm, hms⟩ := HM.out.some hqN
                  subst hpm
                  obtain ⟨fg, cc, gp, ws, d1, d2, d3, d4, d5, d6, d7⟩ := hms.fo hqN
                  have hgp := lt_of_heap d5.1
                  replace d1 := cell_below hFW.bl d1
                  replace d4 := cell_below hFW.bl d4
                  have d5' := d5.below hFW.bl
                  rw [← HN.out, ← HNW.out] at d4
                  rw [← HN.out, ← HNW.out] at d6
                  rw [← HN.out] at d1 d2 hqN
                  have hcm := hFW.cm rfl
                  have hch := hFW.ch
                  have hge := hFW.ge
                  have HJ := Lib.hid (bs_join W.drew gh gp nw H' ws hz d5' (by omega) hl.symm (by rw [hl, d6]) (by omega))
                  have HX := Lib.hid (fun p => bt_jn H' ws (by rw [hl, d6]) p)
                  have HLL := Lib.hid (show (jn H' ws).length = nw by rw [jn_len _ _ (by rw [hl, d6])]; exact hl)
                  generalize jn H' ws = H2 at HJ HX HLL
                  have HK := Lib.hid hk; have HZ := Lib.hid hz; have HQ := Lib.hid hq; have HL0 := Lib.hid hl; have HD7 := Lib.hid d7
                  have hI : ∀ k, (k = ga ∨ k = 0) → k ≠ gh := by
                    have := HF9.out.ge.2.2
                    have := HF9.out.ge.2.1
                    have h0w : 0 < w.heap.size := by
                      obtain ⟨_, _, _, h0, _⟩ := HT.out
                      exact lt_of_heap h0
                    rintro k (rfl | rfl) <;> omega
                  have HI := Lib.hid hI
                  have hqi : (q : Int) < N := by omega
                  have hq0 : (0 : Int) ≤ q := by omega
                  dsimp only
                  generalize hxe : (⟨(q : Int), hxm⟩ : {x : Int // x ∈ sbits A' nw}) = x1
                  have HXE := Lib.hid (show x1.1 = (q : Int) by rw [← hxe])
                  clear hxe hk hz hl hq hFW hms hI hxm hbq hlt d5 d5' d6 d7 hgp hge
                  gi_wp2
                  have hcm' : W.drew.cell? ⟨b2, 0, none⟩ = some (ptr mb) := hcm
                  have hch' : W.drew.cell? ⟨bh, 0, none⟩ = some (bsV gh nw) := hch
                  have d1' : W.drew.cell? ⟨mb, 2, none⟩ = some (.slice (some ⟨fg, 0, none⟩) N cc) := d1
                  have d4' : W.drew.cell? ⟨fg, q, none⟩ = some (bsV gp nw) := d4
                  refine wpIn_region_inv (fun L a w' => ∃ v66 v67 v68 v69 v70 v71 v72 v73 v74 : Value, a = { tmps := #[ptr mb, .string s, ptr b2, undef, .slice none 0 0, ptr ba, ptr bh, u7, undef, u9, undef, ptr bc, undef, .int .i64 q, ptr mb, .int .i64 N, bsV ga nw, ptr mb, .int .i64 N, bsV gh nw, ptr mb, .int .i64 k, .int .i64 k, .bool false, u24, u25, u26, u27, u28, u29, u30, u31, u32, u33, u34, u35, u36, u37, u38, u39, u40, u41, .string s, .slice (some ⟨gs, 0, none⟩) sz cp, .int .i64 sz, .int .i64 i, .bool true, .pointer (some ⟨gs, i, none⟩), .int .u8 nc, bsV ga nw, bsV gh nw, .func (.func 90) #[] #[ptr Bn], undef, undef, undef, undef, undef, undef, undef, undef, bsV ga nw, .bool false, bsV gh nw, bsV ga nw, .func (.func 90) #[] #[ptr Bm], .int .i64 q, v66, v67, v68, v69, v70, v71, v72, v73, v74, v75, undef], defers := [] } ∧ Cl9 L ∧ (L 8 = false → w' = W.drew) ∧ (L 0 = true → v66 = bsV gh nw) ∧ (L 1 = true → v67 = ptr mb) ∧ (L 2 = true → v68 = .pointer (some ⟨mb, 0, none⟩)) ∧ (L 3 = true → v69 = .pointer (some ⟨mb, 2, none⟩)) ∧ (L 4 = true → v70 = .slice (some ⟨fg, 0, none⟩) N cc) ∧ (L 5 = true → v71 = .int .i64 q) ∧ (L 6 = true → v72 = .pointer (some ⟨fg, q, none⟩)) ∧ (L 7 = true → v73 = bsV gp nw) ∧ (L 8 = true → BsAt w' gh H2 ∧ Kb (fun i => i = gh) W.drew w')) (by kernel_rfl) (by kernel_rfl) ?stepR ?finR ?startR
                  case startR =>
                    intro L hL
                    have n : ∀ j, j < 9 → ∀ {p : Prop}, L j = true → p := fun j hj p h => by rw [hL j hj] at h; cases h
                    exact ⟨_, _, _, _, _, _, _, _, _, rfl, ⟨n 2 (by omega), n 3 (by omega), n 4 (by omega), n 6 (by omega), n 6 (by omega), n 7 (by omega), n 8 (by omega), n 8 (by omega)⟩, fun _ => rfl, n 0 (by omega), n 1 (by omega), n 2 (by omega), n 3 (by omega), n 4 (by omega), n 5 (by omega), n 6 (by omega), n 7 (by omega), n 8 (by omega)⟩
                  case finR =>
                    rintro L a w' ⟨v66, v67, v68, v69, v70, v71, v72, v73, v74, rfl, _, _, _, _, _, _, _, _, _, _, h8⟩ hall
                    obtain ⟨hz2, hk2⟩ := h8 (hall 8 (by decide))
                    exact ⟨keeps_kb HZ.out hk2.from_drew, keepI_kb HI.out hk2.from_drew, HK.out.trans hk2.from_drew (fun _ _ h => h), H2, hz2, HLL.out, fun p => by
                      rw [HX.out p, Bool.or_eq_true, HQ.out p, HD7.out p]
                      constructor
                      · rintro (⟨x, hx, q', e, hf⟩ | hf)
                        · exact ⟨x, by simp [hx], q', e, hf⟩
                        · exact ⟨x1, by simp, q, HXE.out, hf⟩
                      · rintro ⟨x, hx, q', e, hf⟩
                        rcases List.mem_append.1 hx with hx | hx
                        · exact .inl ⟨x, hx, q', e, hf⟩
                        · simp at hx
                          rw [hx, HXE.out] at e
                          rw [show q = q' by omega]
                          exact .inr hf⟩
                  case stepR =>
                    intro j o L a w' ho hL haft hI K' hK
                    obtain ⟨v66, v67, v68, v69, v70, v71, v72, v73, v74, rfl, hcl, hw, h0, h1, h2, h3, h4, h5, h6, h7, h8⟩ := hI
                    have hj : j < 9 := (Array.getElem?_eq_some_iff.1 ho).1
                    have h8n : j < 8 → L 8 = false := fun h => hcl.no8 h hL
                    rcases (show j = 0 ∨ j = 1 ∨ j = 2 ∨ j = 3 ∨ j = 4 ∨ j = 5 ∨ j = 6 ∨ j = 7 ∨ j = 8 by omega) with rfl | rfl | rfl | rfl | rfl | rfl | rfl | rfl | rfl
                    all_goals (replace ho := Option.some.inj ho; subst ho)
                    · obtain rfl := hw (h8n (by omega))
                      skip
                      go_simp
                      exact hK.out _ _ ⟨_, _, _, _, _, _, _, _, _, rfl, ⟨hcl.a2, hcl.a3, hcl.a4, hcl.a6, hcl.b6, hcl.a7, fun _ => rfl, hcl.b8⟩, fun _ => rfl, fun _ => rfl, h1, h2, h3, h4, h5, h6, h7, fun h => absurd h (by rw [show upd L 0 8 = L 8 from rfl, h8n (by omega)]; decide)⟩
                    · obtain rfl := hw (h8n (by omega))
                      skip
                      go_simp
                      exact hK.out _ _ ⟨_, _, _, _, _, _, _, _, _, rfl, ⟨fun _ => rfl, hcl.a3, hcl.a4, hcl.a6, hcl.b6, hcl.a7, hcl.a8, hcl.b8⟩, fun _ => rfl, h0, fun _ => rfl, h2, h3, h4, h5, h6, h7, fun h => absurd h (by rw [show upd L 1 8 = L 8 from rfl, h8n (by omega)]; decide)⟩
                    · have l1 := haft ⟨1, .data⟩ (by simp) rfl
                      obtain rfl := h1 l1
                      obtain rfl := hw (h8n (by omega))
                      skip
                      go_simp
                      exact hK.out _ _ ⟨_, _, _, _, _, _, _, _, _, rfl, ⟨fun _ => l1, fun _ => rfl, hcl.a4, hcl.a6, hcl.b6, hcl.a7, hcl.a8, hcl.b8⟩, fun _ => rfl, h0, h1, fun _ => rfl, h3, h4, h5, h6, h7, fun h => absurd h (by rw [show upd L 2 8 = L 8 from rfl, h8n (by omega)]; decide)⟩
                    · have l2 := haft ⟨2, .data⟩ (by simp) rfl
                      obtain rfl := h2 l2
                      obtain rfl := hw (h8n (by omega))
                      skip
                      go_simp
                      exact hK.out _ _ ⟨_, _, _, _, _, _, _, _, _, rfl, ⟨hcl.a2, fun _ => l2, fun _ => rfl, hcl.a6, hcl.b6, hcl.a7, hcl.a8, hcl.b8⟩, fun _ => rfl, h0, h1, h2, fun _ => rfl, h4, h5, h6, h7, fun h => absurd h (by rw [show upd L 3 8 = L 8 from rfl, h8n (by omega)]; decide)⟩
                    · have l3 := haft ⟨3, .data⟩ (by simp) rfl
                      obtain rfl := h3 l3
                      obtain rfl := hw (h8n (by omega))
                      skip
                      go_simp
                      exact hK.out _ _ ⟨_, _, _, _, _, _, _, _, _, rfl, ⟨hcl.a2, hcl.a3, fun _ => l3, fun _ => rfl, hcl.b6, hcl.a7, hcl.a8, hcl.b8⟩, fun _ => rfl, h0, h1, h2, h3, fun _ => rfl, h5, h6, h7, fun h => absurd h (by rw [show upd L 4 8 = L 8 from rfl, h8n (by omega)]; decide)⟩
                    · obtain rfl := hw (h8n (by omega))
                      skip
                      go_simp
                      exact hK.out _ _ ⟨_, _, _, _, _, _, _, _, _, rfl, ⟨hcl.a2, hcl.a3, hcl.a4, hcl.a6, fun _ => rfl, hcl.a7, hcl.a8, hcl.b8⟩, fun _ => rfl, h0, h1, h2, h3, h4, fun _ => rfl, h6, h7, fun h => absurd h (by rw [show upd L 5 8 = L 8 from rfl, h8n (by omega)]; decide)⟩
                    · have l4 := haft ⟨4, .data⟩ (by simp) rfl
                      have l5 := haft ⟨5, .data⟩ (by simp) rfl
                      obtain rfl := h4 l4
                      obtain rfl := h5 l5
                      obtain rfl := hw (h8n (by omega))
                      skip
                      go_simp
                      exact hK.out _ _ ⟨_, _, _, _, _, _, _, _, _, rfl, ⟨hcl.a2, hcl.a3, hcl.a4, fun _ => l4, fun _ => l5, fun _ => rfl, hcl.a8, hcl.b8⟩, fun _ => rfl, h0, h1, h2, h3, h4, h5, fun _ => rfl, h7, fun h => absurd h (by rw [show upd L 6 8 = L 8 from rfl, h8n (by omega)]; decide)⟩
                    · have l6 := haft ⟨6, .data⟩ (by simp) rfl
                      obtain rfl := h6 l6
                      obtain rfl := hw (h8n (by omega))
                      skip
                      go_simp
                      exact hK.out _ _ ⟨_, _, _, _, _, _, _, _, _, rfl, ⟨hcl.a2, hcl.a3, hcl.a4, hcl.a6, hcl.b6, fun _ => l6, hcl.a8, fun _ => rfl⟩, fun _ => rfl, h0, h1, h2, h3, h4, h5, h6, fun _ => rfl, fun h => absurd h (by rw [show upd L 7 8 = L 8 from rfl, h8n (by omega)]; decide)⟩
                    · have l0 := haft ⟨0, .data⟩ (by simp) rfl
                      have l7 := haft ⟨7, .data⟩ (by simp) rfl
                      obtain rfl := h0 l0
                      obtain rfl := h7 l7
                      obtain rfl := hw hL
                      skip
                      go_simp
                      refine ⟨trivial, ?_⟩
                      gi_at_call 87
                      refine (CallsIn.inRound l (callsIn_wide.2 HJ.out)).mono ?_
                      rintro e W2 ⟨rfl, hz2, hk2⟩
                      exact hK.out _ _ ⟨_, _, _, _, _, _, _, _, _, rfl, ⟨hcl.a2, hcl.a3, hcl.a4, hcl.a6, hcl.b6, hcl.a7, fun _ => l0, fun _ => l7⟩, fun h => absurd h (by rw [upd_self]; decide), h0, h1, h2, h3, h4, h5, h6, h7, fun _ => ⟨hz2, hk2⟩⟩
                case done2 =>
                  rintro D2 ys W hD hys ⟨hk, H', hz, hl, hq⟩ hK
                  have HFW := Lib.hid (HF9.out.setH hk hz hl)
                  have HOW := Lib.hid (HO9.out.more hD HF9.out.bl.size (HO9.out.kb HF9.out.sh hk) hK)
                  have hH : ∀ p, bt H' p = true ↔ AhS rs (L.take (i + 1)) p := fun p => by
                    rw [hq p, AhS.some rs _ (by rw [HTK.out]; simp)]
                    constructor
                    · rintro ⟨x, hx, q, e, hf⟩
                      obtain ⟨q', e', hb⟩ := (sbits_get HF9.out.la HF9.out.sa.2 x.1).1 x.2
                      rw [show q' = q by omega] at hb
                      exact ⟨q, (HA.out q).1 hb, hf⟩
                    · rintro ⟨q, hr, hf⟩
                      have h1 : (q : Int) ∈ ys.map (·.1) := by rw [hys]; exact (sbits_get HF9.out.la HF9.out.sa.2 _).2 ⟨q, rfl, (HA.out q).2 hr⟩
                      obtain ⟨x, hx, e⟩ := List.mem_map.1 h1
                      exact ⟨x, hx, q, e, hf⟩
                  have HR2 : Hid (RcL w W rs (.pointer pm) b2 ba bh ga gh nw gs C fz L (i + 1) (D2 :: D :: Ds)) := Lib.hid ⟨A', H', HFW.out, hH, fun _ => HA.out, HOW.out.r, HOW.out.n, HOW.out.d⟩
                  clear hk hz hl hq hK hys hD hH HF9 HO9 HX9 HT9 HFW HOW
                  go_wp2_with fail
                  refine ⟨⟨i + 1, _, _, _, _, _, _, _, _, _, _, _, _, _, D2 :: D :: Ds, rfl, by omega, HR2⟩, ?_⟩
                  show sz - (intOf (.int .i64 ((i : Int) + 1))).toNat < sz - (intOf (.int .i64 (i : Int))).toNat
                  simp [intOf]; omega
          · obtain rfl : i = sz := by omega
            have hca := hF.ca
            have HF := Lib.hid hF; have HA := Lib.hid hA; have HDN := Lib.hid hDn; have HD := Lib.hid hD
            clear hF hH hA hC hDn hD
            go_wp2_with fail
            refine HKE.out _ _ ?_
            go_wp2_with fail
            refine leaves_marks Ds wr HDN.out (fun E hE => (HD.out E hE).1) (fun w' hk' => ?_)
            obtain ⟨f1, f2⟩ := fin_post HF.out HD.out hk'
            have hp := HPOST.out
            subst hp
            refine ⟨_, results_tmp rfl _ _ _, ga, A, by rw [← HN.out, ← HNW.out]; rfl, f1, by rw [← HN.out, ← HNW.out]; exact HF.out.la, HF.out.ge.1, f2, fun h0 q => ?_⟩
            have := HA.out (by rw [HSZ.out]; exact h0) q
            rw [List.take_of_length_le (by rw [HLS.out]; exact Nat.le_refl _), HL.out] at this
            exact this
end Go.Proofs.YtejdfpieblkapaaGreatDoor
