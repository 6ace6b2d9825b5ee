/- Run: those expressions of which something is so. -/
import Derived.Test.YtejdfpieblkapaaGreatDoorG40
import Derived.Test.YtejdfpieblkapaaGreatDoorG37
import Derived.Maps.AppendAt
import Derived.Test.YtejdfpieblkapaaGreatDoorG30
namespace Go.Proofs.YtejdfpieblkapaaGreatDoor
open Go.RowKit Go.Shelf

set_option maxRecDepth 100000 in
set_option maxHeartbeats 2000000 in
theorem indexFunc_any (w : World) (A : Option Addr) (n c g nw : Nat) (l us : List Nat) (hl : NsAt w A l) (hn : l.length = n) (hn2 : n ≤ 100000) (hb : BsAt w g us) (hu : us.length = nw) (hlt : ∀ q ∈ l, q / 64 < nw ∧ q < 1000000) :
    Calls Tryz.prog 88 #[.slice A n c, .func (.func 56) #[bsV g nw] #[]] w fun e w' => (∃ x : Int, e = .returned (.int .i64 x) ∧ decide (0 ≤ x) = l.any (bt us)) ∧ w' = w := by
  have HL := Lib.hid hl; have HN := Lib.hid hn; have HB := Lib.hid hb; have HU := Lib.hid hu; have HLT := Lib.hid hlt
  clear hl hn hb hu hlt
  go_enter Tryz.func88, Tryz.ntmps88
  go_wp2_with fail
  go_loopw [8] (fun i wr => ∃ k : Nat, k ≤ n ∧ i = .int .i64 k ∧ Hid ((l.take k).any (bt us) = false) ∧ Hid (wr = w)) (fun i _ => n - (intOf i).toNat)
  case atStart => exact ⟨0, Nat.zero_le _, rfl, Lib.hid (by simp), Lib.hid (by trivial)⟩
  case round =>
    obtain ⟨k, hk, rfl, HZ, HW⟩ := hrel
    have hw := HW.out
    subst hw
    clear HW
    by_cases hlt : k < n
    · have hki : (k : Int) < n := by omega
      have hk0 : (0 : Int) ≤ k := by omega
      obtain ⟨q, hq⟩ : ∃ q, l[k]? = some q := ⟨_, List.getElem?_eq_getElem (by rw [HN.out]; exact hlt)⟩
      obtain ⟨gl, rfl, hcq⟩ := HL.out.get hq
      have hq2 := HLT.out q (List.mem_of_getElem? hq)
      have HH := Lib.hid (bs_has wr g q nw us HB.out HU.out.symm (by rw [HU.out]; exact hq2.1) hq2.2)
      have htk : l.take (k + 1) = l.take k ++ [q] := by rw [List.take_add_one, hq]; rfl
      have HTK := Lib.hid htk
      have HQM := Lib.hid (List.mem_of_getElem? hq)
      clear htk hq hq2
      obtain ⟨b, hb⟩ : ∃ b, b = bt us q := ⟨_, rfl⟩
      rw [← hb] at HH
      have HBT := Lib.hid hb
      clear hb
      cases b with
      | true =>
        go_wp2_with (first | (go_at_call 56; refine HH.out.mono ?_; rintro e w2 ⟨rfl, rfl⟩))
        go_ret
        refine ⟨⟨_, rfl, ?_⟩, rfl⟩
        have : l.any (bt us) = true := List.any_eq_true.2 ⟨q, HQM.out, HBT.out.symm⟩
        rw [this, decide_eq_true_eq]
        omega
      | false =>
        have HZ2 : Hid ((l.take (k + 1)).any (bt us) = false) := by
          rw [HTK.out, List.any_append, HZ.out]
          exact Lib.hid (by simp [← HBT.out])
        go_wp2_with (first | (go_at_call 56; refine HH.out.mono ?_; rintro e w2 ⟨rfl, rfl⟩))
        go_roundw
        case rel => exact ⟨k + 1, by omega, by go_num, HZ2, Lib.hid (by trivial)⟩
        case measure => simp [intOf]; omega
    · obtain rfl : k = n := by omega
      have hz := HZ.out
      rw [List.take_of_length_le (by rw [HN.out]; exact Nat.le_refl _)] at hz
      have HZ2 := Lib.hid hz
      clear hz
      go_wp2_with fail
      go_ret
      exact ⟨⟨_, rfl, by rw [HZ2.out]; rfl⟩, rfl⟩
set_option maxRecDepth 100000 in
set_option maxHeartbeats 2000000 in
theorem containsFunc_any (w : World) (A : Option Addr) (n c g nw : Nat) (l us : List Nat) (hl : NsAt w A l) (hn : l.length = n) (hn2 : n ≤ 100000) (hb : BsAt w g us) (hu : us.length = nw) (hlt : ∀ q ∈ l, q / 64 < nw ∧ q < 1000000) :
    Calls Tryz.prog 55 #[.slice A n c, .func (.func 56) #[bsV g nw] #[]] w fun e w' => e = .returned (.bool (l.any (bt us))) ∧ w' = w := by
  have HI := Lib.hid (indexFunc_any w A n c g nw l us hl hn hn2 hb hu hlt)
  clear hl hn hb hu hlt
  obtain ⟨β, hβ⟩ : ∃ β, β = l.any (bt us) := ⟨_, rfl⟩
  rw [← hβ] at HI ⊢
  clear hβ
  go_enter Tryz.func55, Tryz.ntmps55
  go_wp2_with fail
  refine HI.out.mono ?_
  rintro e w1 ⟨⟨x, rfl, hx⟩, rfl⟩
  have HX := Lib.hid hx
  clear hx
  go_wp2_with fail
  go_ret
  exact ⟨by rw [← HX.out]; rfl, rfl⟩
set_option maxRecDepth 100000 in
set_option maxHeartbeats 2000000 in
/-- Run's function: may the text have ended in an expression? -/
theorem ended_any (w : World) (B mb bm ba i g nw : Nat) (rs : List Rx) (us l : List Nat) (hm : MsAt w B mb rs) (hR : rs.length ≤ 1000) (hl : (lstS rs 0)[i]? = some l) (h1 : w.cell? ⟨bm, 0, none⟩ = some (ptr mb)) (h2 : w.cell? ⟨ba, 0, none⟩ = some (bsV g nw)) (hb : BsAt w g us) (hu : us.length = nw) (hnw : nw = nwd (cntS rs)) :
    Calls Tryz.prog 54 #[.int .i64 i, ptr bm, ptr ba] w fun e w' => e = .returned (.bool (l.any (bt us))) ∧ Below w.heap.size w w' := by
  obtain ⟨gf, cf, c', A', c4, hcap, hcap2, hci, hns⟩ := hm.rowL hl hR
  have hlt := lstS_own hl
  have hln := (lstS_get hl).2
  have hN := hm.le
  have HC := Lib.hid (fun w' (hb' : Below w.heap.size w w') => containsFunc_any w' A' l.length c' g nw l us (hns.below hb') rfl (by omega) (hb.below hb') hu (fun q hq => ⟨by rw [hnw]; exact nwd_div (hlt q hq).1, by have := (hlt q hq).1; omega⟩))
  obtain ⟨R, hRe⟩ : ∃ R, R = rs.length := ⟨_, rfl⟩
  obtain ⟨nl, hnl⟩ : ∃ nl, nl = l.length := ⟨_, rfl⟩
  have hiR : i < R := by rw [hRe]; exact (lstS_get hl).1
  rw [← hRe] at c4 hcap hR
  rw [← hnl] at hci HC
  have hii : (i : Int) < R := by omega
  have hi0 : (0 : Int) ≤ i := by omega
  obtain ⟨β, hβ⟩ : ∃ β, β = l.any (bt us) := ⟨_, rfl⟩
  rw [← hβ] at HC ⊢
  have HC1 := Lib.hid (HC.out w.drew ((Below.refl _ w).drew))
  clear hns hl hlt hln hm hb hu hnw hRe hnl hβ HC
  go_enter Tryz.func54, Tryz.ntmps54
  go_upto_region 1 with fail
  rename_i K hK
  have HK := Lib.hid hK
  clear hK
  have h1' : w.drew.cell? ⟨bm, 0, none⟩ = some (ptr mb) := h1
  have h2' : w.drew.cell? ⟨ba, 0, none⟩ = some (bsV g nw) := h2
  have c4' : w.drew.cell? ⟨mb, 4, none⟩ = some (.slice (some ⟨gf, 0, none⟩) R cf) := c4
  have hci' : w.drew.cell? ⟨gf, i, none⟩ = some (.slice A' nl c') := hci
  refine wp_region_inv (fun L a w' => ∃ v5 v6 v7 v8 v9 v10 v11 v12 v13 v14 v4 : Value, a = { tmps := #[.int .i64 i, ptr bm, ptr ba, undef, v4, v5, v6, v7, v8, v9, v10, v11, v12, v13, v14], defers := [] } ∧ w' = w.drew ∧ (L 0 = true → v5 = ptr mb) ∧ (L 1 = true → v6 = .pointer (some ⟨mb, 0, none⟩)) ∧ (L 2 = true → v7 = .pointer (some ⟨mb, 4, none⟩)) ∧ (L 3 = true → v8 = .slice (some ⟨gf, 0, none⟩) R cf) ∧ (L 4 = true → v9 = .int .i64 i) ∧ (L 5 = true → v10 = .pointer (some ⟨gf, i, none⟩)) ∧ (L 6 = true → v11 = Value.slice A' nl c') ∧ (L 7 = true → v12 = bsV g nw) ∧ (L 8 = true → v13 = Value.func (.func 56) #[bsV g nw] #[]) ∧ (L 9 = true → v14 = .bool β) ∧ (L 10 = true → v4 = .bool β)) (by kernel_rfl) (by kernel_rfl) ?stepQ ?finQ ?startQ
  case startQ =>
    intro L hL
    have n : ∀ j, j < 11 → ∀ {p : Prop}, L j = true → p := fun j hj p h => by rw [hL j hj] at h; cases h
    exact ⟨_, _, _, _, _, _, _, _, _, _, _, rfl, rfl, n 0 (by omega), n 1 (by omega), n 2 (by omega), n 3 (by omega), n 4 (by omega), n 5 (by omega), n 6 (by omega), n 7 (by omega), n 8 (by omega), n 9 (by omega), n 10 (by omega)⟩
  case stepQ =>
    intro j o L a w' ho hL haft hI K' hK
    obtain ⟨v5, v6, v7, v8, v9, v10, v11, v12, v13, v14, v4, rfl, rfl, h0, h1, h2, h3, h4, h5, h6, h7, h8, h9, h10⟩ := hI
    have hj : j < 11 := (Array.getElem?_eq_some_iff.1 ho).1
    rcases (show j = 0 ∨ j = 1 ∨ j = 2 ∨ j = 3 ∨ j = 4 ∨ j = 5 ∨ j = 6 ∨ j = 7 ∨ j = 8 ∨ j = 9 ∨ j = 10 by omega) with rfl | rfl | rfl | rfl | rfl | rfl | rfl | rfl | rfl | rfl | rfl
    all_goals (replace ho := Option.some.inj ho; subst ho)
    · go_simp
      exact hK.out _ _ ⟨_, _, _, _, _, _, _, _, _, _, _, rfl, rfl, fun _ => rfl, h1, h2, h3, h4, h5, h6, h7, h8, h9, h10⟩
    · have l0 := haft ⟨0, .data⟩ (by simp) rfl
      obtain rfl := h0 l0
      go_simp
      exact hK.out _ _ ⟨_, _, _, _, _, _, _, _, _, _, _, rfl, rfl, h0, fun _ => rfl, h2, h3, h4, h5, h6, h7, h8, h9, h10⟩
    · have l1 := haft ⟨1, .data⟩ (by simp) rfl
      obtain rfl := h1 l1
      go_simp
      exact hK.out _ _ ⟨_, _, _, _, _, _, _, _, _, _, _, rfl, rfl, h0, h1, fun _ => rfl, h3, h4, h5, h6, h7, h8, h9, h10⟩
    · have l2 := haft ⟨2, .data⟩ (by simp) rfl
      obtain rfl := h2 l2
      go_simp
      exact hK.out _ _ ⟨_, _, _, _, _, _, _, _, _, _, _, rfl, rfl, h0, h1, h2, fun _ => rfl, h4, h5, h6, h7, h8, h9, h10⟩
    · go_simp
      exact hK.out _ _ ⟨_, _, _, _, _, _, _, _, _, _, _, rfl, rfl, h0, h1, h2, h3, fun _ => rfl, h5, h6, h7, h8, h9, h10⟩
    · have l3 := haft ⟨3, .data⟩ (by simp) rfl
      have l4 := haft ⟨4, .data⟩ (by simp) rfl
      obtain rfl := h3 l3
      obtain rfl := h4 l4
      go_simp
      exact hK.out _ _ ⟨_, _, _, _, _, _, _, _, _, _, _, rfl, rfl, h0, h1, h2, h3, h4, fun _ => rfl, h6, h7, h8, h9, h10⟩
    · have l5 := haft ⟨5, .data⟩ (by simp) rfl
      obtain rfl := h5 l5
      go_simp
      exact hK.out _ _ ⟨_, _, _, _, _, _, _, _, _, _, _, rfl, rfl, h0, h1, h2, h3, h4, h5, fun _ => rfl, h7, h8, h9, h10⟩
    · go_simp
      exact hK.out _ _ ⟨_, _, _, _, _, _, _, _, _, _, _, rfl, rfl, h0, h1, h2, h3, h4, h5, h6, fun _ => rfl, h8, h9, h10⟩
    · have l7 := haft ⟨7, .data⟩ (by simp) rfl
      obtain rfl := h7 l7
      go_simp
      exact hK.out _ _ ⟨_, _, _, _, _, _, _, _, _, _, _, rfl, rfl, h0, h1, h2, h3, h4, h5, h6, h7, fun _ => rfl, h9, h10⟩
    · have l6 := haft ⟨6, .data⟩ (by simp) rfl
      have l8 := haft ⟨8, .data⟩ (by simp) rfl
      obtain rfl := h6 l6
      obtain rfl := h8 l8
      go_simp
      go_at_call 55
      refine HC1.out.mono ?_
      rintro e w2 ⟨rfl, rfl⟩
      exact hK.out _ _ ⟨_, _, _, _, _, _, _, _, _, _, _, rfl, rfl, h0, h1, h2, h3, h4, h5, h6, h7, h8, fun _ => rfl, h10⟩
    · have l9 := haft ⟨9, .data⟩ (by simp) rfl
      obtain rfl := h9 l9
      go_simp
      exact hK.out _ _ ⟨_, _, _, _, _, _, _, _, _, _, _, rfl, rfl, h0, h1, h2, h3, h4, h5, h6, h7, h8, h9, fun _ => rfl⟩
  case finQ =>
    rintro L a w' ⟨v5, v6, v7, v8, v9, v10, v11, v12, v13, v14, v4, rfl, rfl, h0, h1, h2, h3, h4, h5, h6, h7, h8, h9, h10⟩ hall
    obtain rfl := h0 (hall 0 (by decide))
    obtain rfl := h1 (hall 1 (by decide))
    obtain rfl := h2 (hall 2 (by decide))
    obtain rfl := h3 (hall 3 (by decide))
    obtain rfl := h4 (hall 4 (by decide))
    obtain rfl := h5 (hall 5 (by decide))
    obtain rfl := h6 (hall 6 (by decide))
    obtain rfl := h7 (hall 7 (by decide))
    obtain rfl := h8 (hall 8 (by decide))
    obtain rfl := h9 (hall 9 (by decide))
    obtain rfl := h10 (hall 10 (by decide))
    refine HK.out _ _ ?_
    go_wp2_with fail
    go_ret
    exact ⟨rfl, (Below.refl _ _).drew⟩


set_option maxRecDepth 100000 in
set_option maxHeartbeats 4000000 in
theorem those_empty (w : World) (B mb R : Nat) (rs : List Rx)  (hm : MsAt w B mb rs) (hR : R = rs.length) (hR2 : R ≤ 1000) (β : Nat → Bool)
    (hf : ∀ (i : Nat) (w' : World), i < R → Below w.heap.size w w' → Calls Tryz.prog 23 #[ptr mb, .int .i64 i] w' fun e w'' => e = .returned (.bool (β i)) ∧ Below w'.heap.size w' w'') :
    Calls Tryz.prog 52 #[ptr mb, .func (.func 23) #[ptr mb] #[]] w fun e w' => ∃ v, e = .returned v ∧ w'.ownsRow w.heap.size 3 1 v ((List.range R).filter β).length (((List.range R).filter β).map pv) ∧ Below w.heap.size w w' := by
  obtain ⟨i0, hi0, hz0, hz1, hz2⟩ := info_parts Tryz.info3
  have HI := Lib.hid hi0; have HZ0 := Lib.hid hz0; have HZ1 := Lib.hid hz1; have HZ2 := Lib.hid hz2
  have HRM := Lib.hid (rules_ms w B mb rs hm)
  rw [← hR] at HRM
  have HF := Lib.hid hf
  clear hi0 hz0 hz1 hz2 hf hR hm
  go_enter Tryz.func52, Tryz.ntmps52
  go_wp2_with fail
  refine HRM.out.mono ?_
  rintro e w1 ⟨rfl, rfl⟩
  clear HRM
  go_wp2_with fail
  have HR0 : Hid (w1.ownsRow w1.heap.size 3 1 (.slice none 0 0) ((List.range 0).filter β).length (((List.range 0).filter β).map pv)) := Lib.hid (World.ownsRow_nil _ _ _ _)
  go_loopw [5, 9] (fun va i wr => ∃ k : Nat, k ≤ R ∧ i = .int .i64 k ∧ Hid (wr.ownsRow w1.heap.size 3 1 va ((List.range k).filter β).length (((List.range k).filter β).map pv)) ∧ Hid (Below w1.heap.size w1 wr)) (fun _ i _ => R - (intOf i).toNat)
  case atStart => exact ⟨0, Nat.zero_le _, rfl, HR0, Lib.hid (Below.refl _ _)⟩
  case round =>
    clear HR0
    obtain ⟨k, hk, rfl, HO, HB⟩ := hrel
    obtain ⟨A, c, rfl, hac, hcm⟩ := own_form HO.out
    obtain ⟨m, hm⟩ : ∃ m, m = ((List.range k).filter β).length := ⟨_, rfl⟩
    rw [← hm] at HO hac ⊢
    have hmk : m ≤ k := by rw [hm]; have := List.length_filter_le β (List.range k); simpa using this
    have HM := Lib.hid hm
    clear hm
    by_cases hlt : k < R
    · have hki : (k : Int) < R := by omega
      have hk0 : (0 : Int) ≤ k := by omega
      have HC := Lib.hid (HF.out k wr hlt HB.out)
      have hrs : List.range (k + 1) = List.range k ++ [k] := List.range_succ
      have HRS := Lib.hid hrs
      clear hrs
      obtain ⟨b, hb⟩ : ∃ b, b = β k := ⟨_, rfl⟩
      rw [← hb] at HC
      have HBT := Lib.hid hb
      clear hb
      cases b with
      | true =>
        go_upto_region 6 with (first | (go_at_call 23; refine HC.out.mono ?_; rintro e w2 ⟨rfl, hb2⟩; have HB2 := Lib.hid (below_tr HB.out hb2 HB.out.size); have HO2 := Lib.hid (own_keep' HO.out (Kb.of_below (fun _ => False) hb2) (fun _ _ x => x)); clear hb2))
        rename_i KX hKX
        have HKX := Lib.hid hKX
        clear hKX HO
        have hz2 := HB2.out.size
        have HOA := Lib.hid (HO2.out.alloc (.cells #[.int .i64 k] 3))
        go_wp2_with (at_builtin; refine wpList_append_own _ rfl _ _ 32 rfl w1.heap.size 3 i0 (.int .i64 0) 1 8 Tryz.underlying32 HI.out HZ0.out HZ1.out HZ2.out rfl (by decide) _ _ _ rfl HOA.out ⟨w2.heap.size, 0, none⟩ 1 1 [.int .i64 k] rfl rfl (cell_one_new _ _ _) (by simp [Value.oneCell']) (by unfold maxLen; omega) (by omega) (by simp; omega) ?_)
        intro v' w3 hown' hgrow _
        have hal : Below w2.heap.size w2 (w2.alloc (.cells #[.int .i64 k] 3)) := (Below.refl _ w2).alloc (Nat.le_refl _) _
        have k3 : Kb (fun i => some i = (Value.slice A m c).ownBlock) w2 w3 := (Kb.of_below _ hal).trans (Kb.of_grown hgrow) (fun _ _ x => x)
        have HB3 : Hid (Below w1.heap.size w1 w3) := Lib.hid (HB2.out.trans (k3.below hz2 (fun i hi => (own_ty' HO2.out hi.symm).1)))
        have HO3 : Hid (w3.ownsRow w1.heap.size 3 1 v' ((List.range (k + 1)).filter β).length (((List.range (k + 1)).filter β).map pv)) := by
          have e : (List.range (k + 1)).filter β = (List.range k).filter β ++ [k] := by rw [HRS.out, List.filter_append]; simp [← HBT.out]
          rw [e, List.length_append, List.map_append, ← HM.out]
          exact Lib.hid hown'
        obtain ⟨A3, c3, rfl, _⟩ := own_form HO3.out
        clear hown' hgrow hal k3 HOA HO2 HB2 hz2
        go_wp2_with fail
        refine HKX.out _ _ ?_
        go_wp2_with fail
        go_roundw
        case rel => exact ⟨k + 1, by omega, by go_num, HO3, HB3⟩
        case measure => simp [intOf]; omega
      | false =>
        go_wp2_with (first | (go_at_call 23; refine HC.out.mono ?_; rintro e w2 ⟨rfl, hb2⟩; have HB2 := Lib.hid (below_tr HB.out hb2 HB.out.size); have HO2 := Lib.hid (own_keep' HO.out (Kb.of_below (fun _ => False) hb2) (fun _ _ x => x)); clear hb2))
        have HO3 : Hid (w2.ownsRow w1.heap.size 3 1 (.slice A m c) ((List.range (k + 1)).filter β).length (((List.range (k + 1)).filter β).map pv)) := by
          have e : (List.range (k + 1)).filter β = (List.range k).filter β := by rw [HRS.out, List.filter_append]; simp [← HBT.out]
          rw [e, ← HM.out]
          exact HO2
        clear HO HO2
        go_roundw
        case rel => exact ⟨k + 1, by omega, by go_num, HO3, HB2⟩
        case measure => simp [intOf]; omega
    · obtain rfl : k = R := by omega
      go_wp2_with fail
      go_ret
      rw [← HM.out]
      exact ⟨_, rfl, HO.out, HB.out⟩

set_option maxRecDepth 100000 in
set_option maxHeartbeats 4000000 in
theorem those_ended (w : World) (B mb R : Nat) (rs : List Rx) (bm ba : Nat) (hm : MsAt w B mb rs) (hR : R = rs.length) (hR2 : R ≤ 1000) (β : Nat → Bool)
    (hf : ∀ (i : Nat) (w' : World), i < R → Below w.heap.size w w' → Calls Tryz.prog 54 #[.int .i64 i, ptr bm, ptr ba] w' fun e w'' => e = .returned (.bool (β i)) ∧ Below w'.heap.size w' w'') :
    Calls Tryz.prog 52 #[ptr mb, .func (.func 54) #[] #[ptr bm, ptr ba]] w fun e w' => ∃ v, e = .returned v ∧ w'.ownsRow w.heap.size 3 1 v ((List.range R).filter β).length (((List.range R).filter β).map pv) ∧ Below w.heap.size w w' := by
  obtain ⟨i0, hi0, hz0, hz1, hz2⟩ := info_parts Tryz.info3
  have HI := Lib.hid hi0; have HZ0 := Lib.hid hz0; have HZ1 := Lib.hid hz1; have HZ2 := Lib.hid hz2
  have HRM := Lib.hid (rules_ms w B mb rs hm)
  rw [← hR] at HRM
  have HF := Lib.hid hf
  clear hi0 hz0 hz1 hz2 hf hR hm
  go_enter Tryz.func52, Tryz.ntmps52
  go_wp2_with fail
  refine HRM.out.mono ?_
  rintro e w1 ⟨rfl, rfl⟩
  clear HRM
  go_wp2_with fail
  have HR0 : Hid (w1.ownsRow w1.heap.size 3 1 (.slice none 0 0) ((List.range 0).filter β).length (((List.range 0).filter β).map pv)) := Lib.hid (World.ownsRow_nil _ _ _ _)
  go_loopw [5, 9] (fun va i wr => ∃ k : Nat, k ≤ R ∧ i = .int .i64 k ∧ Hid (wr.ownsRow w1.heap.size 3 1 va ((List.range k).filter β).length (((List.range k).filter β).map pv)) ∧ Hid (Below w1.heap.size w1 wr)) (fun _ i _ => R - (intOf i).toNat)
  case atStart => exact ⟨0, Nat.zero_le _, rfl, HR0, Lib.hid (Below.refl _ _)⟩
  case round =>
    clear HR0
    obtain ⟨k, hk, rfl, HO, HB⟩ := hrel
    obtain ⟨A, c, rfl, hac, hcm⟩ := own_form HO.out
    obtain ⟨m, hm⟩ : ∃ m, m = ((List.range k).filter β).length := ⟨_, rfl⟩
    rw [← hm] at HO hac ⊢
    have hmk : m ≤ k := by rw [hm]; have := List.length_filter_le β (List.range k); simpa using this
    have HM := Lib.hid hm
    clear hm
    by_cases hlt : k < R
    · have hki : (k : Int) < R := by omega
      have hk0 : (0 : Int) ≤ k := by omega
      have HC := Lib.hid (HF.out k wr hlt HB.out)
      have hrs : List.range (k + 1) = List.range k ++ [k] := List.range_succ
      have HRS := Lib.hid hrs
      clear hrs
      obtain ⟨b, hb⟩ : ∃ b, b = β k := ⟨_, rfl⟩
      rw [← hb] at HC
      have HBT := Lib.hid hb
      clear hb
      cases b with
      | true =>
        go_upto_region 6 with (first | (go_at_call 54; refine HC.out.mono ?_; rintro e w2 ⟨rfl, hb2⟩; have HB2 := Lib.hid (below_tr HB.out hb2 HB.out.size); have HO2 := Lib.hid (own_keep' HO.out (Kb.of_below (fun _ => False) hb2) (fun _ _ x => x)); clear hb2))
        rename_i KX hKX
        have HKX := Lib.hid hKX
        clear hKX HO
        have hz2 := HB2.out.size
        have HOA := Lib.hid (HO2.out.alloc (.cells #[.int .i64 k] 3))
        go_wp2_with (at_builtin; refine wpList_append_own _ rfl _ _ 32 rfl w1.heap.size 3 i0 (.int .i64 0) 1 8 Tryz.underlying32 HI.out HZ0.out HZ1.out HZ2.out rfl (by decide) _ _ _ rfl HOA.out ⟨w2.heap.size, 0, none⟩ 1 1 [.int .i64 k] rfl rfl (cell_one_new _ _ _) (by simp [Value.oneCell']) (by unfold maxLen; omega) (by omega) (by simp; omega) ?_)
        intro v' w3 hown' hgrow _
        have hal : Below w2.heap.size w2 (w2.alloc (.cells #[.int .i64 k] 3)) := (Below.refl _ w2).alloc (Nat.le_refl _) _
        have k3 : Kb (fun i => some i = (Value.slice A m c).ownBlock) w2 w3 := (Kb.of_below _ hal).trans (Kb.of_grown hgrow) (fun _ _ x => x)
        have HB3 : Hid (Below w1.heap.size w1 w3) := Lib.hid (HB2.out.trans (k3.below hz2 (fun i hi => (own_ty' HO2.out hi.symm).1)))
        have HO3 : Hid (w3.ownsRow w1.heap.size 3 1 v' ((List.range (k + 1)).filter β).length (((List.range (k + 1)).filter β).map pv)) := by
          have e : (List.range (k + 1)).filter β = (List.range k).filter β ++ [k] := by rw [HRS.out, List.filter_append]; simp [← HBT.out]
          rw [e, List.length_append, List.map_append, ← HM.out]
          exact Lib.hid hown'
        obtain ⟨A3, c3, rfl, _⟩ := own_form HO3.out
        clear hown' hgrow hal k3 HOA HO2 HB2 hz2
        go_wp2_with fail
        refine HKX.out _ _ ?_
        go_wp2_with fail
        go_roundw
        case rel => exact ⟨k + 1, by omega, by go_num, HO3, HB3⟩
        case measure => simp [intOf]; omega
      | false =>
        go_wp2_with (first | (go_at_call 54; refine HC.out.mono ?_; rintro e w2 ⟨rfl, hb2⟩; have HB2 := Lib.hid (below_tr HB.out hb2 HB.out.size); have HO2 := Lib.hid (own_keep' HO.out (Kb.of_below (fun _ => False) hb2) (fun _ _ x => x)); clear hb2))
        have HO3 : Hid (w2.ownsRow w1.heap.size 3 1 (.slice A m c) ((List.range (k + 1)).filter β).length (((List.range (k + 1)).filter β).map pv)) := by
          have e : (List.range (k + 1)).filter β = (List.range k).filter β := by rw [HRS.out, List.filter_append]; simp [← HBT.out]
          rw [e, ← HM.out]
          exact HO2
        clear HO HO2
        go_roundw
        case rel => exact ⟨k + 1, by omega, by go_num, HO3, HB2⟩
        case measure => simp [intOf]; omega
    · obtain rfl : k = R := by omega
      go_wp2_with fail
      go_ret
      rw [← HM.out]
      exact ⟨_, rfl, HO.out, HB.out⟩
end Go.Proofs.YtejdfpieblkapaaGreatDoor

/- Run. -/
namespace Go.Proofs.YtejdfpieblkapaaGreatDoor
open Go.RowKit Go.Shelf

/-- Does expression i mean a text? -/
def mns (rs : List Rx) (u : List UInt8) (i : Nat) : Bool := match rs[i]? with
  | some r => r.mt u
  | none => false
set_option maxRecDepth 100000 in
set_option maxHeartbeats 1000000 in
theorem empty_yes (w : World) (B mb : Nat) (rs : List Rx) (h : MsAt w B mb rs) (hR : rs.length ≤ 1000) (i : Nat) (r : Rx) (hr : rs[i]? = some r) :
    Calls Tryz.prog 23 #[ptr mb, .int .i64 i] w fun e w' => e = .returned (.bool r.nul) ∧ w' = w := by
  obtain ⟨As, Ar, A, Af, Al, Ae, cs, cr, c, cf, cl, ce, hm, _, _, _, _, hem, _⟩ := h.cells
  have hi := (List.getElem?_eq_some_iff.1 hr).1
  obtain ⟨g, rfl, hcl, hcap, hcap2⟩ := own_cells hem (by omega)
  have hci := hcl i (.bool r.nul) (by rw [List.getElem?_map, List.getElem?_map, hr]; rfl)
  have c5 : w.cell? ⟨mb, 5, none⟩ = some (.slice (some ⟨g, 0, none⟩) rs.length ce) := by rw [Lib.cell_of_heap hm]; rfl
  have HRY := Lib.hid (rule_yes w mb (some ⟨g, 0, none⟩) rs.length ce i c5 hi (by omega))
  obtain ⟨R, hRR⟩ : ∃ R, R = rs.length := ⟨_, rfl⟩
  rw [← hRR] at c5 hR hi hcap2
  have hii : (i : Int) < R := by omega
  have hi0 : (0 : Int) ≤ i := by omega
  generalize r.nul = β at hci ⊢
  clear h hm hem hcl hRR hr
  go_enter Tryz.func23, Tryz.ntmps23
  go_wp2_with fail
  refine HRY.out.mono ?_
  rintro e w1 ⟨rfl, rfl⟩
  go_wp2_with fail
  go_ret
  exact ⟨rfl, rfl⟩
theorem run_mns {rs : List Rx} {i : Nat} {r : Rx} {l us : List Nat} {u : List UInt8} (hr : rs[i]? = some r) (hl : (lstS rs 0)[i]? = some l) (hu : u ≠ []) (hb : ∀ q, bt us q = true ↔ RcS rs u q) : l.any (bt us) = mns rs u i := by
  have h1 := lstS_at (n := 0) hr
  rw [hl] at h1
  injection h1 with h1
  rw [Nat.zero_add] at h1
  have h2 := run_iff hr u hu
  have h3 : mns rs u i = r.mt u := by unfold mns; rw [hr]
  rw [h3, Bool.eq_iff_iff, Rx.mt_iff, ← h2, List.any_eq_true]
  constructor
  · rintro ⟨q, hq, hbq⟩
    exact ⟨q, by rw [← h1]; exact hq, (hb q).1 hbq⟩
  · rintro ⟨q, hq, hrq⟩
    exact ⟨q, by rw [h1]; exact hq, (hb q).2 hrq⟩
set_option maxRecDepth 100000 in
set_option maxHeartbeats 4000000 in
theorem run_any (w : World) (B mb : Nat) (rs : List Rx) (s : ByteArray) (h : MsAt w B mb rs) (hT : TabH w) (hs : s.size ≤ 1000) (hR : rs.length ≤ 1000) :
    Calls Tryz.prog 16 #[ptr mb, .string s] w fun e w' => ∃ v, e = .returned v ∧ w'.ownsRow w.heap.size 3 1 v ((List.range rs.length).filter (mns rs s.data.toList)).length (((List.range rs.length).filter (mns rs s.data.toList)).map pv) ∧ Below w.heap.size w w' := by
  obtain ⟨POST, hPOST⟩ : ∃ POST : Ending → World → Prop, POST = fun e w' => ∃ v, e = .returned v ∧ w'.ownsRow w.heap.size 3 1 v ((List.range rs.length).filter (mns rs s.data.toList)).length (((List.range rs.length).filter (mns rs s.data.toList)).map pv) ∧ Below w.heap.size w w' := ⟨_, rfl⟩
  have HPOST := Lib.hid hPOST
  rw [← hPOST]
  clear hPOST
  have hal := (Below.refl _ w).alloc (Nat.le_refl _) (.cells #[ptr mb] 28)
  have hx1 := heap_alloc_new w (.cells #[ptr mb] 28)
  obtain ⟨bm, hbm⟩ : ∃ bm, bm = w.heap.size := ⟨_, rfl⟩
  rw [← hbm] at hx1
  obtain ⟨w1, hw1⟩ : ∃ w1, w1 = w.alloc (.cells #[ptr mb] 28) := ⟨_, rfl⟩
  rw [← hw1] at hal hx1
  have hms1 := h.below hal
  have hc1 : w1.cell? ⟨bm, 0, none⟩ = some (ptr mb) := by rw [Lib.cell_of_heap hx1]; rfl
  have HR := Lib.hid (reach_any w1 (ptr mb) rs s (.inr ⟨_, mb, rfl, hms1⟩) (hT.keep (I := fun _ => True) (KeepI.below hal) trivial) hs hR)
  have HAL := Lib.hid hal; have HMS := Lib.hid hms1
  have HSZ := Lib.hid (show ∀ (v : Value) (xs : List Value) (n : Nat) (w' : World), w'.ownsRow w1.heap.size 3 1 v n xs → w'.ownsRow w.heap.size 3 1 v n xs from fun v xs n w' h => own_base h hal.size)
  obtain ⟨L, hL⟩ : ∃ L, L = s.data.toList := ⟨_, rfl⟩
  have hE : s.toList.isEmpty = L.isEmpty := by rw [Lib.toList_data, hL]
  have hsL : s.size = L.length := by rw [Lib.size_eq, hL]
  have HL := Lib.hid hL; have HSL := Lib.hid hsL
  clear hal hx1 h hT hms1 hL hsL
  go_enter Tryz.func16, Tryz.ntmps16
  go_upto_region 1 with fail
  rw [← hw1, ← hbm]
  clear hw1 hbm
  cases L with
  | nil =>
    have hE' : s.toList.isEmpty = true := hE
    clear hE
    have HTH := Lib.hid (those_empty w1 _ mb rs.length rs HMS.out rfl hR (mns rs []) (fun i w' hi hb => by
      obtain ⟨r, hr⟩ : ∃ r, rs[i]? = some r := ⟨_, List.getElem?_eq_getElem hi⟩
      refine (empty_yes w' _ mb rs (HMS.out.below hb) hR i r hr).mono ?_
      rintro e w'' ⟨rfl, rfl⟩
      refine ⟨?_, Below.refl _ _⟩
      have : mns rs [] i = r.nul := by unfold mns; rw [hr]; rfl
      rw [this]))
    have HEND : Hid (∀ e w', (∃ v, e = .returned v ∧ w'.ownsRow w.heap.size 3 1 v ((List.range rs.length).filter (mns rs [])).length (((List.range rs.length).filter (mns rs [])).map pv) ∧ Below w.heap.size w w') → POST e w') := by
      rw [HPOST.out, ← HL.out]
      exact Lib.hid (fun _ _ h => h)
    generalize (List.range rs.length).filter (mns rs []) = RL at HTH HEND
    obtain ⟨NL, hNL⟩ : ∃ NL, NL = RL.length := ⟨_, rfl⟩
    rw [← hNL] at HTH HEND
    clear hNL
    go_wp2_with fail
    refine HTH.out.mono ?_
    rintro e w2 ⟨v, rfl, ho, hb⟩
    obtain ⟨Av, cv, rfl, _⟩ := own_form ho
    have HO := Lib.hid (HSZ.out _ _ _ _ ho)
    have HB := Lib.hid (below_tr HAL.out hb HAL.out.size)
    clear ho hb
    go_wp2_with fail
    exact HEND.out _ _ ⟨_, rfl, HO.out, HB.out⟩
  | cons a L =>
    have hE' : s.toList.isEmpty = false := hE
    clear hE
    go_wp2_with fail
    refine HR.out.mono ?_
    rintro e w2 ⟨g, us, rfl, hbs, hul, _, hb2, hq⟩
    have hc2 := cell_below hb2 hc1
    have HB2 := Lib.hid (below_tr HAL.out hb2 HAL.out.size)
    have hal := (Below.refl _ w2).alloc (Nat.le_refl _) (.cells #[bsV g (nwd (cntS rs))] 87)
    have hx3 := heap_alloc_new w2 (.cells #[bsV g (nwd (cntS rs))] 87)
    have HB3 := Lib.hid (below_tr HB2.out hal HB2.out.size)
    have hc3 := cell_below hal hc2
    have hms3 := (HMS.out.below hb2).below hal
    have hbs3 := hbs.below hal
    have hqq := hq (by rw [HSL.out]; simp)
    rw [← HL.out] at hqq
    have HSZ2 := Lib.hid (show ∀ (v : Value) (xs : List Value) (n : Nat) (w' : World), w'.ownsRow (w2.alloc (.cells #[bsV g (nwd (cntS rs))] 87)).heap.size 3 1 v n xs → w'.ownsRow w.heap.size 3 1 v n xs from fun v xs n w' h => own_base h HB3.out.size)
    obtain ⟨nw, hnw⟩ : ∃ nw, nw = nwd (cntS rs) := ⟨_, rfl⟩
    rw [← hnw] at hx3 HB3 hc3 hms3 hbs3 hul HSZ2 ⊢
    have HNW := Lib.hid hnw
    clear hnw
    go_upto_region 4 with fail
    generalize w2.alloc (.cells #[bsV g nw] 87) = w3 at HB3 hc3 hms3 hbs3 hx3 HSZ2 ⊢
    obtain ⟨ba, hba⟩ : ∃ ba, ba = w2.heap.size := ⟨_, rfl⟩
    rw [← hba] at hx3 ⊢
    have hca3 : w3.cell? ⟨ba, 0, none⟩ = some (bsV g nw) := by rw [Lib.cell_of_heap hx3]; rfl
    have HTH := Lib.hid (those_ended w3 _ mb rs.length rs bm ba hms3 rfl hR (mns rs (a :: L)) (fun i w' hi hb => by
      obtain ⟨r, hr⟩ : ∃ r, rs[i]? = some r := ⟨_, List.getElem?_eq_getElem hi⟩
      obtain ⟨_, l, _, hl, _⟩ := firsts hi
      refine (ended_any w' _ mb bm ba i g nw rs us l (hms3.below hb) hR hl (cell_below hb hc3) (cell_below hb hca3) (hbs3.below hb) hul HNW.out).mono ?_
      rintro e w'' ⟨rfl, hb'⟩
      exact ⟨by rw [run_mns hr hl (by simp) hqq], hb'⟩))
    have HEND : Hid (∀ e w', (∃ v, e = .returned v ∧ w'.ownsRow w.heap.size 3 1 v ((List.range rs.length).filter (mns rs (a :: L))).length (((List.range rs.length).filter (mns rs (a :: L))).map pv) ∧ Below w.heap.size w w') → POST e w') := by
      rw [HPOST.out, ← HL.out]
      exact Lib.hid (fun _ _ h => h)
    generalize (List.range rs.length).filter (mns rs (a :: L)) = RL at HTH HEND
    obtain ⟨NL, hNL⟩ : ∃ NL, NL = RL.length := ⟨_, rfl⟩
    rw [← hNL] at HTH HEND
    clear hNL hc2 hb2 hal hc1 HAL hms3 hbs3 hqq hq hbs hul hx3 hba HMS HR
    go_wp2_with fail
    refine HTH.out.mono ?_
    rintro e w4 ⟨v, rfl, ho, hb⟩
    obtain ⟨Av, cv, rfl, _⟩ := own_form ho
    have HO := Lib.hid (HSZ2.out _ _ _ _ ho)
    have HB := Lib.hid (below_tr HB3.out hb HB3.out.size)
    clear ho hb
    go_wp2_with fail
    exact HEND.out _ _ ⟨_, rfl, HO.out, HB.out⟩
end Go.Proofs.YtejdfpieblkapaaGreatDoor

/- The law that Run answers those that mean the text. -/
namespace Go.Proofs.YtejdfpieblkapaaGreatDoor
open Go.RowKit Go.Shelf

theorem RfR.at {Q : Nat → Prop} {w : World} : ∀ {rs : List Rx} {cb : List Value} {i : Nat} {r : Rx}, RfR Q w rs cb → rs[i]? = some r → ∃ cs, RfQ Q w r cs ∧ ∀ (j : Nat) (v : Value), cs[j]? = some v → cb[i * 258 + j]? = some v
  | [], _, i, r, _, h => by simp at h
  | a :: rs, cb, 0, r, ⟨x, y, h, h1, h2⟩, hr => by
    simp at hr; subst hr
    refine ⟨x, h1, fun j v hj => ?_⟩
    rw [h, Nat.zero_mul, Nat.zero_add, List.getElem?_append_left (List.getElem?_eq_some_iff.1 hj).1]
    exact hj
  | a :: rs, cb, i + 1, r, ⟨x, y, h, h1, h2⟩, hr => by
    obtain ⟨cs, h3, h4⟩ := RfR.at h2 (by simpa using hr)
    refine ⟨cs, h3, fun j v hj => ?_⟩
    rw [h, List.getElem?_append_right (by rw [h1.len]; omega), h1.len, show (i + 1) * 258 + j - 258 = i * 258 + j by omega]
    exact h4 j v hj
set_option maxRecDepth 100000 in
set_option maxHeartbeats 8000000 in
theorem law_runs (w : World) (A : Option Addr) (n c : Nat) (ss : List ByteArray) (t : ByteArray) (hT : TabH w) (hl : ss.length = n) (hnc : n ≤ c) (_hc : c ≤ 9223372036854775807) (hS : SsAt w A ss) (htm : t.size ≤ 9223372036854775807) :
    Calls Tryz.prog 3 #[.slice A n c, .string t] w (Ans (.bool true) w) := by
  have HT := Lib.hid hT; have HL := Lib.hid hl; have HS := Lib.hid hS
  have HAW := Lib.hid (awake6_any w hT)
  clear hT hl hS
  by_cases h6 : 6 < n
  · have h6i : (6 : Int) < n := by omega
    go_enter Tryz.func3, Tryz.ntmps3
    go_wp2_with (first | (go_at_call 11; refine HAW.out.mono ?_; rintro e w2 ⟨rfl, hba⟩))
    go_ret
    exact ⟨rfl, hba⟩
  · have h6i : ¬ (6 : Int) < n := by omega
    by_cases h20 : 20 < t.size
    · have h20i : (20 : Int) < (t.size : Nat) := by omega
      go_enter Tryz.func3, Tryz.ntmps3
      go_wp2_with (first | (go_at_call 11; refine HAW.out.mono ?_; rintro e w2 ⟨rfl, hba⟩))
      go_ret
      exact ⟨rfl, hba⟩
    have h20i : ¬ (20 : Int) < (t.size : Nat) := by omega
    go_enter Tryz.func3, Tryz.ntmps3
    go_wp2_with (first | (go_at_call 11; refine HAW.out.mono ?_; rintro e w2 ⟨rfl, hba⟩))
    have HBA := Lib.hid hba
    clear hba
    go_loopw [5] (fun i wr => ∃ k : Nat, k ≤ n ∧ i = .int .i64 k ∧ Hid (∀ j s, j < k → ss[j]? = some s → s.size ≤ 40) ∧ Hid (wr = w2)) (fun i _ => n - (intOf i).toNat)
    case atStart => exact ⟨0, Nat.zero_le _, rfl, Lib.hid (fun j s h => by omega), Lib.hid rfl⟩
    case round =>
      obtain ⟨k, hk, rfl, H4, HW⟩ := hrel
      have hw := HW.out
      subst hw
      clear HW
      by_cases hlt : k < n
      · have hki : (k : Int) < n := by omega
        have hk0 : (0 : Int) ≤ k := by omega
        obtain ⟨s, hs⟩ : ∃ s, ss[k]? = some s := ⟨_, List.getElem?_eq_getElem (by rw [HL.out]; exact hlt)⟩
        obtain ⟨b, o, rfl, hcs⟩ := HS.out.below HBA.out k s hs
        by_cases h40 : 40 < s.size
        · have h40i : (40 : Int) < (s.size : Nat) := by omega
          clear hs
          go_wp2_with fail
          go_ret
          exact ⟨rfl, HBA.out⟩
        · have h40i : ¬ (40 : Int) < (s.size : Nat) := by omega
          have H5 : Hid (∀ j s, j < k + 1 → ss[j]? = some s → s.size ≤ 40) := Lib.hid (fun j s' hj hs' => by
            by_cases e : j = k
            · subst e; rw [hs] at hs'; injection hs' with hs'; subst hs'; omega
            · exact H4.out j s' (by omega) hs')
          clear hs
          go_wp2_with fail
          go_roundw
          case rel => exact ⟨k + 1, by omega, by go_num, H5, Lib.hid (by trivial)⟩
          case measure => simp [intOf]; omega
      · obtain rfl : k = n := by omega
        have HRU := Lib.hid (rules_law wr A k c ss HL.out hnc (HS.out.below HBA.out) (by omega) (fun s hs => by
          obtain ⟨j, hj⟩ := List.getElem?_of_mem hs
          exact H4.out j s (by have := (List.getElem?_eq_some_iff.1 hj).1; rw [HL.out] at this; exact this) hj))
        clear H4
        go_wp2_with fail
        refine HRU.out.mono ?_
        rintro e w3 ⟨va, vb, bad, bs, cb, Q, rfl, hR, hsz⟩
        have hr6 : (rxs ss).length ≤ 6 := by have := rxs_len ss; rw [HL.out] at this; omega
        generalize rxs ss = rs at hR hsz hr6
        have HNW := Lib.hid (new_of hR hr6 hsz)
        have HB3 := Lib.hid (below_tr HBA.out hR.bl HBA.out.size)
        obtain ⟨Ab, cbp, rfl, hmb, hcb⟩ := own_form hR.ob
        obtain ⟨nb, hnb⟩ : ∃ nb, nb = rs.length := ⟨_, rfl⟩
        have HOB := Lib.hid hR.ob; have HRB := Lib.hid hR.nb
        rw [← hnb] at HOB hmb ⊢
        have HNB := Lib.hid hnb
        have hnb6 : nb ≤ 6 := by rw [hnb]; exact hr6
        clear hR hsz HRU HBA hnb
        go_wp2_with fail
        refine HNW.out.mono ?_
        rintro e w4 ⟨hb4, ⟨x, hx, rfl⟩ | ⟨B, mb, rfl, hms, _⟩⟩
        · have HB4 := Lib.hid (below_tr HB3.out hb4 HB3.out.size)
          have hx2 : ¬ x = 0 := hx
          clear hb4 hx
          go_wp2_with fail
          go_ret
          exact ⟨rfl, HB4.out⟩
        · have HB4 := Lib.hid (below_tr HB3.out hb4 HB3.out.size)
          have HMS := Lib.hid hms
          have hN := hms.le
          have hr0 : nb ≤ 1000 := by omega
          have HW3 := Lib.hid hb4
          obtain ⟨T, hT⟩ : ∃ T, T = t.data.toList := ⟨_, rfl⟩
          have HTT := Lib.hid hT
          obtain ⟨i0, hi0, hz0, hz1, hz2⟩ := info_parts Tryz.info3
          have HI := Lib.hid hi0; have HZ0 := Lib.hid hz0; have HZ1 := Lib.hid hz1; have HZ2 := Lib.hid hz2
          clear hb4 hms HNW hT hi0 hz0 hz1 hz2
          have HR0 : Hid (w4.ownsRow w4.heap.size 3 1 (.slice none 0 0) ((List.range 0).filter (mns rs T)).length (((List.range 0).filter (mns rs T)).map pv)) := Lib.hid (World.ownsRow_nil _ _ _ _)
          go_wp2_with fail
          go_loopw [11, 12] (fun va i wq => ∃ k : Nat, k ≤ nb ∧ i = .int .i64 k ∧ Hid (wq.ownsRow w4.heap.size 3 1 va ((List.range k).filter (mns rs T)).length (((List.range k).filter (mns rs T)).map pv)) ∧ Hid (Below w4.heap.size w4 wq)) (fun _ i _ => nb - (intOf i).toNat)
          case atStart => exact ⟨0, Nat.zero_le _, rfl, HR0, Lib.hid (Below.refl _ _)⟩
          case round =>
            clear HR0
            obtain ⟨k1, hk1, rfl, HO, HB⟩ := hrel
            obtain ⟨Aw, cw, rfl, hac, hcm⟩ := own_form HO.out
            obtain ⟨m, hm⟩ : ∃ m, m = ((List.range k1).filter (mns rs T)).length := ⟨_, rfl⟩
            rw [← hm] at HO hac ⊢
            have hmk : m ≤ k1 := by rw [hm]; have := List.length_filter_le (mns rs T) (List.range k1); simpa using this
            have HM := Lib.hid hm
            clear hm
            by_cases hlt1 : k1 < nb
            · have hki : (k1 : Int) < nb := by omega
              have hk0 : (0 : Int) ≤ k1 := by omega
              obtain ⟨r, hr⟩ : ∃ r, rs[k1]? = some r := ⟨_, List.getElem?_eq_getElem (by rw [← HNB.out]; exact hlt1)⟩
              obtain ⟨cs, hq, hcs⟩ := HRB.out.at hr
              obtain ⟨gb, rfl, hcell, _⟩ := own_cells HOB.out (by omega)
              have hb34 : Below w3.heap.size w3 wr := below_tr HW3.out HB.out HW3.out.size
              have HRA : Hid (wr.rangeAt gb (k1 * 258) cs) := Lib.hid (fun j v hj => cell_below hb34 (hcell _ _ (hcs j v hj)))
              have HRF := Lib.hid (hq.rf.below hb34)
              have HLN := Lib.hid hq.len
              have hmn : mns rs T k1 = r.mt T := by unfold mns; rw [hr]
              have HMT := Lib.hid (rmatches_any wr r cs t HRF.out (by omega))
              rw [← HTT.out, ← hmn] at HMT
              obtain ⟨b, hb⟩ : ∃ b, b = mns rs T k1 := ⟨_, rfl⟩
              rw [← hb] at HMT
              have HBT := Lib.hid hb
              clear hr hq hcs hcell hb34 hmn hb
              have HRS := Lib.hid (show List.range (k1 + 1) = List.range k1 ++ [k1] from List.range_succ)
              cases b with
              | true =>
                go_upto_region 17 with (first | (refine ld30 rfl _ rfl gb (k1 * 258) cs rfl HRA.out HLN.out ?_) | (go_at_call 14; refine HMT.out.mono ?_; rintro e w5 ⟨rfl, hb5⟩; have HB5 := Lib.hid (below_tr HB.out hb5 HB.out.size); have HO5 := Lib.hid (own_keep' HO.out (Kb.of_below (fun _ => False) hb5) (fun _ _ x => x)); clear hb5))
                rename_i KX hKX
                have HKX := Lib.hid hKX
                clear hKX HO
                have hz5 := HB5.out.size
                have HOA := Lib.hid (HO5.out.alloc (.cells #[.int .i64 k1] 3))
                go_wp2_with (at_builtin; refine wpList_append_own _ rfl _ _ 32 rfl w4.heap.size 3 i0 (.int .i64 0) 1 8 Tryz.underlying32 HI.out HZ0.out HZ1.out HZ2.out rfl (by decide) _ _ _ rfl HOA.out ⟨w5.heap.size, 0, none⟩ 1 1 [.int .i64 k1] rfl rfl (cell_one_new _ _ _) (by simp [Value.oneCell']) (by unfold maxLen; omega) (by omega) (by simp; omega) ?_)
                intro v' w6 hown' hgrow _
                have hal : Below w5.heap.size w5 (w5.alloc (.cells #[.int .i64 k1] 3)) := (Below.refl _ w5).alloc (Nat.le_refl _) _
                have k3 : Kb (fun i => some i = (Value.slice Aw m cw).ownBlock) w5 w6 := (Kb.of_below _ hal).trans (Kb.of_grown hgrow) (fun _ _ x => x)
                have HB6 : Hid (Below w4.heap.size w4 w6) := Lib.hid (HB5.out.trans (k3.below hz5 (fun i hi => (own_ty' HO5.out hi.symm).1)))
                have HO6 : Hid (w6.ownsRow w4.heap.size 3 1 v' ((List.range (k1 + 1)).filter (mns rs T)).length (((List.range (k1 + 1)).filter (mns rs T)).map pv)) := by
                  have e : (List.range (k1 + 1)).filter (mns rs T) = (List.range k1).filter (mns rs T) ++ [k1] := by rw [HRS.out, List.filter_append]; simp [← HBT.out]
                  rw [e, List.length_append, List.map_append, ← HM.out]
                  exact Lib.hid hown'
                obtain ⟨A3, c3, rfl, _⟩ := own_form HO6.out
                clear hown' hgrow hal k3 HOA HO5 HB5 hz5
                go_wp2_with fail
                refine HKX.out _ _ ?_
                go_wp2_with fail
                go_roundw
                case rel => exact ⟨k1 + 1, by omega, by go_num, HO6, HB6⟩
                case measure => simp [intOf]; omega
              | false =>
                go_wp2_with (first | (refine ld30 rfl _ rfl gb (k1 * 258) cs rfl HRA.out HLN.out ?_) | (go_at_call 14; refine HMT.out.mono ?_; rintro e w5 ⟨rfl, hb5⟩; have HB5 := Lib.hid (below_tr HB.out hb5 HB.out.size); have HO5 := Lib.hid (own_keep' HO.out (Kb.of_below (fun _ => False) hb5) (fun _ _ x => x)); clear hb5))
                have HO6 : Hid (w5.ownsRow w4.heap.size 3 1 (.slice Aw m cw) ((List.range (k1 + 1)).filter (mns rs T)).length (((List.range (k1 + 1)).filter (mns rs T)).map pv)) := by
                  have e : (List.range (k1 + 1)).filter (mns rs T) = (List.range k1).filter (mns rs T) := by rw [HRS.out, List.filter_append]; simp [← HBT.out]
                  rw [e, ← HM.out]
                  exact HO5
                clear HO HO5
                go_roundw
                case rel => exact ⟨k1 + 1, by omega, by go_num, HO6, HB5⟩
                case measure => simp [intOf]; omega
            · obtain rfl : k1 = nb := by omega
              have HRN := Lib.hid (run_any wr B mb rs t (HMS.out.below HB.out) (HT.out.below (below_tr HB4.out HB.out HB4.out.size)) (by omega) (by rw [← HNB.out]; exact hr0))
              rw [← HTT.out, ← HNB.out] at HRN
              generalize (List.range k1).filter (mns rs T) = RL at HO HM HRN
              rw [← HM.out] at HRN
              go_wp2_with fail
              refine HRN.out.mono ?_
              rintro e w5 ⟨v, rfl, ho, hb5⟩
              obtain ⟨Ar, cr, rfl, _⟩ := own_form ho
              have HNT := Lib.hid (ints_any w5 Ar Aw m m cr cw RL RL (own_ns ho) ((own_ns HO.out).below hb5) HM.out.symm HM.out.symm (by omega))
              rw [decide_eq_true rfl] at HNT
              have HB5 := Lib.hid (below_tr HB.out hb5 HB.out.size)
              clear ho hb5 HRN HO HM
              go_wp2_with fail
              refine HNT.out.mono ?_
              rintro e w6 ⟨rfl, hb6⟩
              have HB6 := Lib.hid (below_tr HB5.out hb6 HB5.out.size)
              clear hb6
              go_wp2_with fail
              go_ret
              exact ⟨rfl, below_tr HB4.out HB6.out HB4.out.size⟩
end Go.Proofs.YtejdfpieblkapaaGreatDoor
