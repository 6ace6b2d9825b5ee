/- What edits.Compose answers of right edits. -/
import Derived.Test.YtpifobaejmfppaaW2
namespace Go.Proofs.Ytpifobaejmfppaa
open Go.RowKit

set_option maxRecDepth 100000 in
set_option maxHeartbeats 4000000 in
theorem compose_yes (s : ByteArray) (A1 : Option Addr) (len1 cap1 : Nat) (a : List Ed) (A2 : Option Addr) (len2 cap2 : Nat) (b : List Ed) (w : World) (hlen1 : a.length = len1) (hl1 : len1 ≤ cap1) (hcap1 : cap1 ≤ 9223372036854775807) (hE1 : EdsAt w w.heap.size A1 a)
    (hlen2 : b.length = len2) (hl2 : len2 ≤ cap2) (hcap2 : cap2 ≤ 9223372036854775807) (hE2 : EdsAt w w.heap.size A2 b)
    (hsm1 : len1 ≤ 100000) (hsm2 : len2 ≤ 100000) (hR : rightB 0 s.size a = true) (hS : s.size + tot a + tot b ≤ 1099511627776) (hR2 : rightB 0 ((appl s.data.toList 0 a).length : Int) b = true) :
    Calls Try.prog 23 #[.string s, .slice A1 len1 cap1, .slice A2 len2 cap2] w (CoBack s a b w) := by
  have HM := Lib.hid (right_mod hR (by omega) (by omega))
  have hmv : mv s.size a = ((s.size : Int), sumGr a) := by rw [mv, mv_right _ _ _ _ _ hR, Int.zero_add]
  have hsz : s.data.toList.length = s.size := (Lib.size_eq s).symm
  have hal := appl_len s.data.toList a 0 (by omega) (by rw [hsz]; exact hR)
  rw [hsz] at hal
  have hsg := sumGr_le a
  have hrlt := rl_text s a 0
  have hrlk := rl_ok s a 0 (Nat.zero_le _) hR
  have hrll := rl_len s a 0
  obtain ⟨T, hT⟩ : ∃ T, T = appl s.data.toList 0 a := ⟨_, rfl⟩
  rw [← hT] at hal hR2 hrlt
  obtain ⟨z, hz⟩ : ∃ z, z = T.length := ⟨_, rfl⟩
  rw [← hz] at hal hR2
  have HV := Lib.hid (show (mv s.size a).1 + (mv s.size a).2 = (z : Int) by rw [hmv]; simp at hal ⊢; omega)
  have hzb : z + tot b ≤ 1099511627776 := by simp at hal; omega
  have hal2 := appl_len T b 0 (Nat.zero_le _) (by rw [← hz]; exact hR2)
  have HA := Lib.hid (show (appl T 0 b).length ≤ 1099511627776 by have := sumGr_le b; rw [← hz] at hal2; omega)
  clear hal2
  have HT := Lib.hid hT; have HZ := Lib.hid hz
  have HRT := Lib.hid hrlt; have HRK := Lib.hid hrlk; have HRL := Lib.hid hrll
  clear hmv hz hal hT hrlt hrlk hrll
  have HSZ := Lib.hid hsz; clear hsz
  have HR := Lib.hid hR; clear hR
  have HR2 := Lib.hid hR2; clear hR2
  have HL := Lib.hid hlen1; clear hlen1
  have HL2 := Lib.hid hlen2; clear hlen2
  have hb0 := (Below.refl w.heap.size w).alloc (Nat.le_refl _) (.cells #[.string s] 9)
  have HE := Lib.hid ((hE1.below hb0).more hb0.size)
  go_enter Try.func23, Try.ntmps23
  go_wp2_with fail
  refine (right_any s.size A1 len1 cap1 a _ HL.out hl1 hcap1 HE.out).mono ?_
  rintro e w1 ⟨rfl, hb1⟩
  rw [HR.out]
  have hb1' := below_tr hb0 hb1 hb0.size
  have hs1 : One w1 w.heap.size 9 (.string s) := (hb1.block _ (by simp)).trans (heap_alloc_new w (.cells #[.string s] 9))
  have hc1 := hs1.cell
  have HE1 := Lib.hid ((hE1.below hb1').more hb1'.size)
  go_wp2_with fail
  refine (move_any s.size A1 len1 cap1 a _ HL.out hl1 hcap1 (by omega) HE1.out HM.out (by omega) (by omega)).mono ?_
  rintro e w2 ⟨rfl, hb2⟩
  rw [HV.out]
  have hb2' := below_tr hb1' hb2 hb1'.size
  have hs2 : One w2 w.heap.size 9 (.string s) := (hb2.block _ hs1.lt).trans hs1
  have HE2 := Lib.hid ((hE2.below hb2').more hb2'.size)
  clear hb2 hc1
  go_wp2_with fail
  refine (right_any z A2 len2 cap2 b _ HL2.out hl2 hcap2 HE2.out).mono ?_
  rintro e w3 ⟨rfl, hb3⟩
  rw [HR2.out]
  have hb3' := below_tr hb2' hb3 hb2'.size
  have hs3 : One w3 w.heap.size 9 (.string s) := (hb3.block _ hs2.lt).trans hs2
  have hc3 := hs3.cell
  clear hb3 hs1 hs2 hb1 hb1' hb2'
  have hsf : ∀ (p : Addr) (fn : Fn) (first captured : Array Value) (m : Mode) (w : World), (store p (.func fn first captured) m).run Try.prog w = stored Try.prog w p (.func fn first captured) m := fun p fn f c m w => run_store _ w p _ m rfl
  have n0 := hs3.lt
  have hs4 : One ((((w3.alloc (.cells #[.slice none 0 0] 22)).alloc (.cells #[.pointer none, .slice none 0 0] 70)).alloc (.cells #[.int .i64 0] 3)).alloc (.cells #[.func (.func 47) #[] #[.pointer (some ⟨w3.heap.size, 0, none⟩), .pointer (some ⟨w.heap.size, 0, none⟩), .pointer (some ⟨w3.heap.size + 1 + 1, 0, none⟩), .pointer (some ⟨w3.heap.size + 1, 0, none⟩)]] 71)) w.heap.size 9 (.string s) :=
    (Below.heap_alloc _ _ _ (by simp; omega)).trans ((Below.heap_alloc _ _ _ (by simp; omega)).trans ((Below.heap_alloc _ _ _ (by simp; omega)).trans ((Below.heap_alloc _ _ _ n0).trans hs3)))
  have hc4 := hs4.cell
  go_wp2_with fail
  have h4o : One ((((w3.alloc (.cells #[.slice none 0 0] 22)).alloc (.cells #[.pointer none, .slice none 0 0] 70)).alloc (.cells #[.int .i64 0] 3)).alloc (.cells #[.func (.func 47) #[] #[.pointer (some ⟨w3.heap.size, 0, none⟩), .pointer (some ⟨w.heap.size, 0, none⟩), .pointer (some ⟨w3.heap.size + 1 + 1, 0, none⟩), .pointer (some ⟨w3.heap.size + 1, 0, none⟩)]] 71)) w3.heap.size 22 (.slice none 0 0) :=
    (Below.heap_alloc _ _ _ (by simp; omega)).trans ((Below.heap_alloc _ _ _ (by simp; omega)).trans ((Below.heap_alloc _ _ _ (by simp)).trans (heap_alloc_new w3 _)))
  have h4w : ((((w3.alloc (.cells #[.slice none 0 0] 22)).alloc (.cells #[.pointer none, .slice none 0 0] 70)).alloc (.cells #[.int .i64 0] 3)).alloc (.cells #[.func (.func 47) #[] #[.pointer (some ⟨w3.heap.size, 0, none⟩), .pointer (some ⟨w.heap.size, 0, none⟩), .pointer (some ⟨w3.heap.size + 1 + 1, 0, none⟩), .pointer (some ⟨w3.heap.size + 1, 0, none⟩)]] 71)).heap[w3.heap.size + 1]? = some (.cells #[.pointer none, .slice none 0 0] 70 (0, 0)) :=
    (Below.heap_alloc _ _ _ (by simp)).trans ((Below.heap_alloc _ _ _ (by simp)).trans (by have := heap_alloc_new (w3.alloc (.cells #[.slice none 0 0] 22)) (.cells #[.pointer none, .slice none 0 0] 70); rwa [World.size_alloc] at this))
  have h4k : One ((((w3.alloc (.cells #[.slice none 0 0] 22)).alloc (.cells #[.pointer none, .slice none 0 0] 70)).alloc (.cells #[.int .i64 0] 3)).alloc (.cells #[.func (.func 47) #[] #[.pointer (some ⟨w3.heap.size, 0, none⟩), .pointer (some ⟨w.heap.size, 0, none⟩), .pointer (some ⟨w3.heap.size + 1 + 1, 0, none⟩), .pointer (some ⟨w3.heap.size + 1, 0, none⟩)]] 71)) (w3.heap.size + 1 + 1) 3 (.int .i64 0) :=
    (Below.heap_alloc _ _ _ (by simp)).trans (by have := heap_alloc_new ((w3.alloc (.cells #[.slice none 0 0] 22)).alloc (.cells #[.pointer none, .slice none 0 0] 70)) (.cells #[.int .i64 0] 3); rwa [World.size_alloc, World.size_alloc] at this)
  have h4p : One ((((w3.alloc (.cells #[.slice none 0 0] 22)).alloc (.cells #[.pointer none, .slice none 0 0] 70)).alloc (.cells #[.int .i64 0] 3)).alloc (.cells #[.func (.func 47) #[] #[.pointer (some ⟨w3.heap.size, 0, none⟩), .pointer (some ⟨w.heap.size, 0, none⟩), .pointer (some ⟨w3.heap.size + 1 + 1, 0, none⟩), .pointer (some ⟨w3.heap.size + 1, 0, none⟩)]] 71)) (w3.heap.size + 1 + 1 + 1) 71 (pdVal w.heap.size w3.heap.size (w3.heap.size + 1) (w3.heap.size + 1 + 1)) := by
    have := heap_alloc_new (((w3.alloc (.cells #[.slice none 0 0] 22)).alloc (.cells #[.pointer none, .slice none 0 0] 70)).alloc (.cells #[.int .i64 0] 3)) (.cells #[.func (.func 47) #[] #[.pointer (some ⟨w3.heap.size, 0, none⟩), .pointer (some ⟨w.heap.size, 0, none⟩), .pointer (some ⟨w3.heap.size + 1 + 1, 0, none⟩), .pointer (some ⟨w3.heap.size + 1, 0, none⟩)]] 71)
    rwa [World.size_alloc, World.size_alloc, World.size_alloc] at this
  have hb4 := ((((hb3'.alloc hb3'.size (.cells #[.slice none 0 0] 22)).alloc (by simp; omega) (.cells #[.pointer none, .slice none 0 0] 70)).alloc (by simp; omega) (.cells #[.int .i64 0] 3)).alloc (by simp; omega) (.cells #[.func (.func 47) #[] #[.pointer (some ⟨w3.heap.size, 0, none⟩), .pointer (some ⟨w.heap.size, 0, none⟩), .pointer (some ⟨w3.heap.size + 1 + 1, 0, none⟩), .pointer (some ⟨w3.heap.size + 1, 0, none⟩)]] 71))
  clear hc4 hc3 hs3
  generalize ((((w3.alloc (.cells #[.slice none 0 0] 22)).alloc (.cells #[.pointer none, .slice none 0 0] 70)).alloc (.cells #[.int .i64 0] 3)).alloc (.cells #[.func (.func 47) #[] #[.pointer (some ⟨w3.heap.size, 0, none⟩), .pointer (some ⟨w.heap.size, 0, none⟩), .pointer (some ⟨w3.heap.size + 1 + 1, 0, none⟩), .pointer (some ⟨w3.heap.size + 1, 0, none⟩)]] 71)) = w4 at *
  refine (runsOf_any s A1 len1 cap1 a w4 HL.out hl1 hcap1 (by omega) ((hE1.below hb4).more hb4.size) HR.out (by omega)).mono ?_
  rintro e w5 ⟨g, c, rfl, hown, hb5⟩
  obtain ⟨hcap5, hcap6⟩ := own_cap hown
  have HST := Lib.hid (rst_start (N := 2 * len1 + 1) hs4 h4o h4w h4k h4p (by omega) (by omega) (by omega) hb4.size hown hb5 hcap5 hcap6 HR.out (by omega) HRT.out (by have := HRL.out; have := HL.out; omega))
  have HB5 := Lib.hid (below_tr hb4 hb5 hb4.size)
  have hz5 := hb5.size
  have hl4 := h4p.lt
  clear hown hb5 hs4 h4o h4w h4k h4p hb4
  generalize (rl s 0 a).length = nl at *
  go_wp2_with fail
  have hz5' : w.heap.size ≤ w5.heap.size := by omega
  have HBs := Lib.hid (HB5.out.alloc hz5' (.cells #[.slice (some ⟨g, 0, none⟩) nl c, .int .i64 0] 85))
  clear HB5 hl4 hz5 HE HE1 HE2 hb0 hb3'
  generalize w5.heap.size = Br at *
  generalize w3.heap.size + 1 + 1 + 1 = Bp at *
  generalize w3.heap.size + 1 + 1 = Bk at *
  generalize w3.heap.size + 1 = Bw at *
  generalize w3.heap.size = Bo at *
  go_loopw [15, 39] (fun v i wr => ∃ (k x : Nat) (C : List UInt8), k ≤ len2 ∧ i = .int .i64 k ∧ v = .int .i64 x ∧ x ≤ z ∧ Hid (rightB x z (b.drop k) = true) ∧ Hid (C ++ appl T x (b.drop k) = appl T 0 b) ∧ Hid (∃ row w0, RSt w.heap.size w.heap.size Bo Bw Bk Bp Br s C (T.drop x) (2 * len1 + 1 + 2 * k) row w0 wr) ∧ Below w.heap.size w wr) (fun _ i _ => len2 - (intOf i).toNat)
  case atStart => exact ⟨0, 0, [], Nat.zero_le _, rfl, rfl, Nat.zero_le _, HR2.out, rfl, ⟨_, _, HST.out⟩, HBs.out⟩
  case round =>
    clear HST HBs
    obtain ⟨k, x, C, hk, rfl, rfl, hx, HRk, HP, HSr, hb⟩ := hrel
    have hCl : C.length ≤ 1099511627776 := by
      have h1 := HA.out; have h2 := congrArg List.length HP.out; rw [List.length_append] at h2; omega
    by_cases hlt : k < len2
    · obtain ⟨e, he⟩ := get_some b k (by rw [HL2.out]; exact hlt)
      have HD := Lib.hid (drop_cons_of he)
      have hme := size_le_tot (List.mem_of_getElem? he)
      have hr1 := HRk.out
      rw [HD.out, rightB_cons, Bool.and_eq_true, Ed.okB_iff] at hr1
      obtain ⟨⟨q1, q2, q3⟩, q4⟩ := hr1
      have HQ := Lib.hid q4; clear q4
      have hCe : C.length + (e.f.toNat - x) + e.s.size ≤ 1099511627776 := by
        have h1 := HA.out
        have h2 := congrArg List.length HP.out
        rw [HD.out, appl_cons] at h2
        have h3 : e.bs.length = e.s.size := Array.length_toList
        simp only [List.length_append, List.length_take, List.length_drop] at h2
        have := HZ.out
        omega
      obtain ⟨ad, rfl, hab, c0, c1, c2⟩ := (hE2.below hb) k e he
      clear he
      have hzb := hb.size
      obtain ⟨row, hrow, hst⟩ : ∃ row, some wr.heap.size ≠ row ∧ RSt w.heap.size w.heap.size Bo Bw Bk Bp Br s C (T.drop x) (2 * len1 + 1 + 2 * k) row (wr.alloc (.cells #[.int .i64 e.f, .int .i64 e.t, .string e.s] 35)) (wr.alloc (.cells #[.int .i64 e.f, .int .i64 e.t, .string e.s] 35)) := by
        obtain ⟨_, _, h⟩ := HSr.out
        exact h.rootAlloc _
      obtain ⟨l1, l2, l3, l4, l5, l6⟩ : Bo < wr.heap.size ∧ Bw < wr.heap.size ∧ Bk < wr.heap.size ∧ Br < wr.heap.size ∧ Bp < wr.heap.size ∧ w.heap.size < wr.heap.size := by
        obtain ⟨_, _, h⟩ := HSr.out
        exact h.lts
      have hc0 := heap_alloc_new wr (.cells #[.int .i64 e.f, .int .i64 e.t, .string e.s] 35)
      have hnx : wr.heap.size ∉ [Bo, Bw, Bk, Br] := by simp; omega
      have HST := Lib.hid hst; have HRO := Lib.hid hrow; have HC0 := Lib.hid hc0; have HNX := Lib.hid hnx
      clear hst hrow hc0 hnx
      obtain ⟨m0, hm0⟩ : ∃ m0 : Nat, (m0 : Int) = e.f - x := ⟨(e.f - x).toNat, by omega⟩
      obtain ⟨m1, hm1⟩ : ∃ m1 : Nat, (m1 : Int) = e.t - e.f := ⟨(e.t - e.f).toNat, by omega⟩
      have p1 : IntKind.i64.wrap (e.f - (x : Int)) = (m0 : Int) := by rw [hm0]; exact IntWalk.i64_in _ (by omega)
      have p2 : IntKind.i64.wrap (e.t - e.f) = (m1 : Int) := by rw [hm1]; exact IntWalk.i64_in _ (by omega)
      have HM0 := Lib.hid hm0; have HM1 := Lib.hid hm1
      clear hm0 hm1
      go_wp2_with fail
      clear p1
      have hRl : (T.drop x).length = z - x := by rw [List.length_drop, ← HZ.out]
      refine (read_gather w.heap.size w.heap.size Bo Bw Bk Bp Br s C (T.drop x) (2 * len1 + 1 + 2 * k) m0 row _ _ HST.out (by rw [hRl]; have := HM0.out; omega) (by omega) (by have := HM0.out; omega) (by omega) hz5').mono ?_
      rintro x1 w7 ⟨rfl, hst7⟩
      have hbx7 := hst7.box HC0.out HNX.out HRO.out
      have HS7 := Lib.hid hst7
      have d0 := cell0_of hbx7
      have d1 := cell1_of hbx7
      clear hst7 HST hbx7
      go_wp2_with fail
      clear p2 d0 d1
      have hRl2 : ((T.drop x).drop m0).length = z - x - m0 := by rw [List.length_drop, hRl]
      refine (read_drop w.heap.size w.heap.size Bo Bw Bk Bp Br s _ _ _ m1 row _ _ HS7.out (by rw [hRl2]; have := HM0.out; have := HM1.out; omega) (by have := HM1.out; omega) hz5').mono ?_
      rintro x1 w8 ⟨rfl, hst8⟩
      have hbx8 := hst8.box HC0.out HNX.out HRO.out
      have HS8 := Lib.hid hst8
      have d2 := cell2_of hbx8
      clear hst8 HS7 hbx8
      go_wp2_with fail
      clear d2
      refine (HS8.out.write e.s (by rw [List.length_append, List.length_take]; have := HM0.out; omega)).mono ?_
      rintro x1 w9 ⟨rfl, hst9⟩
      have hbx9 := hst9.box HC0.out HNX.out HRO.out
      have HS9 := Lib.hid hst9
      have d1 := cell1_of hbx9
      clear hst9 HS8 hbx9
      go_wp2
      go_roundw
      case rel =>
        have hm0 := HM0.out
        have hm1 := HM1.out
        refine ⟨k + 1, e.t.toNat, C ++ (T.drop x).take (e.f.toNat - x) ++ e.bs, by omega, by go_num, by rw [Int.toNat_of_nonneg (by omega)], by omega, ?_, ?_, ?_, ?_⟩
        · show rightB _ _ _ = true
          rw [Int.toNat_of_nonneg (by omega)]; exact HQ.out
        · show _ = _
          rw [← HP.out, HD.out, appl_cons]; simp only [List.append_assoc]
        · refine ⟨row, (wr.alloc (.cells #[.int .i64 e.f, .int .i64 e.t, .string e.s] 35)), ?_⟩
          have h9 := HS9.out
          rw [List.drop_drop, List.drop_drop, show x + (m0 + m1) = e.t.toNat by omega, show m0 = e.f.toNat - x by omega] at h9
          exact h9
        · exact (hb.alloc hzb (.cells #[.int .i64 e.f, .int .i64 e.t, .string e.s] 35)).trans HS9.out.below.1
      case measure => simp [intOf]; omega
    · obtain ⟨row, w0, hst⟩ := HSr.out
      obtain ⟨row, hrow, hst⟩ := hst.root
      have HST := Lib.hid hst
      clear hst hrow
      obtain ⟨m0, hm0⟩ : ∃ m0 : Nat, (m0 : Int) = (z : Int) - x := ⟨z - x, by omega⟩
      have p1 : IntKind.i64.wrap ((z : Int) - (x : Int)) = (m0 : Int) := by rw [hm0]; exact IntWalk.i64_in _ (by omega)
      have HM0 := Lib.hid hm0
      clear hm0
      have HF := Lib.hid (show C ++ (T.drop x).take m0 = appl T 0 b by
        rw [← HP.out, show b.drop k = [] from List.drop_of_length_le (by rw [HL2.out]; omega), appl, List.take_of_length_le (by rw [List.length_drop, ← HZ.out]; have := HM0.out; omega)])
      go_wp2_with fail
      clear p1
      have hRl : (T.drop x).length = z - x := by rw [List.length_drop, ← HZ.out]
      refine (read_gather w.heap.size w.heap.size Bo Bw Bk Bp Br s C (T.drop x) (2 * len1 + 1 + 2 * k) m0 row _ _ HST.out (by rw [hRl]; have := HM0.out; omega) (by omega) (by have h1 := HA.out; rw [← HF.out, List.length_append, List.length_take, hRl] at h1; have := HM0.out; omega) (by omega) hz5').mono ?_
      rintro x1 w7 ⟨rfl, hst7⟩
      rw [HF.out] at hst7
      obtain ⟨d0, d1⟩ := hst7.vals
      have HS7 := Lib.hid hst7
      clear hst7 HST
      go_wp2_with fail
      clear d0 d1
      refine (HS7.out.last HA.out (by omega) (by omega)).mono ?_
      rintro x1 w8 ⟨rfl, L, A', c', ho, hown, hbl, r1, r2, r3⟩
      have d0 := ho.cell
      have HO := Lib.hid hown; have HB8 := Lib.hid hbl; have HR1 := Lib.hid r1; have HR2' := Lib.hid r2; have HR3 := Lib.hid r3
      clear ho hown hbl r1 r2 r3
      obtain ⟨n, hn⟩ : ∃ n, n = L.length := ⟨_, rfl⟩
      have HN := Lib.hid hn
      rw [← hn] at d0
      clear hn
      go_wp2
      refine bodyPost_ret (v := .tuple #[.slice A' n c', .int .i64 0]) (by simp [results, Try.results23, go_sem]) rfl ?_
      have ho := HO.out
      refine ⟨L, ⟨A', c', by rw [HN.out], (own_cap ho).1, (own_cap ho).2, ho, hb.trans HB8.out⟩, HR1.out, by rw [HR2'.out, HT.out], HR3.out⟩
end Go.Proofs.Ytpifobaejmfppaa
