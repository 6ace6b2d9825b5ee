/- The law that all positions are an expression's own. -/
import Derived.Test.YtejdfpieblkapaaGreatDoorG40
import Derived.Test.YtejdfpieblkapaaGreatDoorG30
namespace Go.Proofs.YtejdfpieblkapaaGreatDoor
open Go.RowKit Go.Shelf

theorem eqlen (a b : Nat) (h : a = 0 ↔ b = 0) : (!(((a : Int) == 0) == ((b : Int) == 0))) = false := by
  rcases a with _ | a <;> rcases b with _ | b
  · rfl
  · exact absurd (h.1 rfl) (by omega)
  · exact absurd (h.2 rfl) (by omega)
  · have h1 : (((a + 1 : Nat) : Int) == 0) = false := by simp; omega
    have h2 : (((b + 1 : Nat) : Int) == 0) = false := by simp; omega
    rw [h1, h2]; rfl
set_option maxRecDepth 100000 in
set_option maxHeartbeats 8000000 in
theorem law_own (w : World) (A : Option Addr) (n c : Nat) (ss : List ByteArray) (hT : TabH w) (hl : ss.length = n) (hnc : n ≤ c) (_hc : c ≤ 9223372036854775807) (hS : SsAt w A ss) :
    Calls Tryz.prog 5 #[.slice A n c] w (Ans (.bool true) w) := by
  have HT := Lib.hid hT; have HL := Lib.hid hl; have HS := Lib.hid hS
  have HAW := Lib.hid (awake6_any w hT)
  clear hT hl hS
  by_cases h6 : 6 < n
  · have h6i : (6 : Int) < n := by omega
    go_enter Tryz.func5, Tryz.ntmps5
    go_wp2_with (first | (go_at_call 11; refine HAW.out.mono ?_; rintro e w2 ⟨rfl, hba⟩))
    go_ret
    exact ⟨rfl, hba⟩
  · have h6i : ¬ (6 : Int) < n := by omega
    go_enter Tryz.func5, Tryz.ntmps5
    go_wp2_with (first | (go_at_call 11; refine HAW.out.mono ?_; rintro e w2 ⟨rfl, hba⟩))
    have HBA := Lib.hid hba
    clear hba
    go_loopw [3] (fun i wr => ∃ k : Nat, k ≤ n ∧ i = .int .i64 k ∧ Hid (∀ j s, j < k → ss[j]? = some s → s.size ≤ 40) ∧ Hid (wr = w2)) (fun i _ => n - (intOf i).toNat)
    case atStart => exact ⟨0, Nat.zero_le _, rfl, Lib.hid (fun j s h => by omega), Lib.hid rfl⟩
    case round =>
      obtain ⟨k, hk, rfl, H4, HW⟩ := hrel
      have hw := HW.out
      subst hw
      clear HW
      by_cases hlt : k < n
      · have hki : (k : Int) < n := by omega
        have hk0 : (0 : Int) ≤ k := by omega
        obtain ⟨s, hs⟩ : ∃ s, ss[k]? = some s := ⟨_, List.getElem?_eq_getElem (by rw [HL.out]; exact hlt)⟩
        obtain ⟨b, o, rfl, hcs⟩ := HS.out.below HBA.out k s hs
        by_cases h40 : 40 < s.size
        · have h40i : (40 : Int) < (s.size : Nat) := by omega
          clear hs
          go_wp2_with fail
          go_ret
          exact ⟨rfl, HBA.out⟩
        · have h40i : ¬ (40 : Int) < (s.size : Nat) := by omega
          have H5 : Hid (∀ j s, j < k + 1 → ss[j]? = some s → s.size ≤ 40) := Lib.hid (fun j s' hj hs' => by
            by_cases e : j = k
            · subst e; rw [hs] at hs'; injection hs' with hs'; subst hs'; omega
            · exact H4.out j s' (by omega) hs')
          clear hs
          go_wp2_with fail
          go_roundw
          case rel => exact ⟨k + 1, by omega, by go_num, H5, Lib.hid (by trivial)⟩
          case measure => simp [intOf]; omega
      · obtain rfl : k = n := by omega
        have HRU := Lib.hid (rules_law wr A k c ss HL.out hnc (HS.out.below HBA.out) (by omega) (fun s hs => by
          obtain ⟨j, hj⟩ := List.getElem?_of_mem hs
          exact H4.out j s (by have := (List.getElem?_eq_some_iff.1 hj).1; rw [HL.out] at this; exact this) hj))
        clear H4
        go_wp2_with fail
        refine HRU.out.mono ?_
        rintro e w3 ⟨va, vb, bad, bs, cb, Q, rfl, hR, hsz⟩
        have hr6 : (rxs ss).length ≤ 6 := by have := rxs_len ss; rw [HL.out] at this; omega
        generalize rxs ss = rs at hR hsz hr6
        have HNW := Lib.hid (new_of hR hr6 hsz)
        have HB3 := Lib.hid (below_tr HBA.out hR.bl HBA.out.size)
        clear hR hsz HRU HBA
        go_wp2_with fail
        refine HNW.out.mono ?_
        rintro e w4 ⟨hb4, ⟨x, hx, rfl⟩ | ⟨B, mb, rfl, hms, _⟩⟩
        · have HB4 := Lib.hid (below_tr HB3.out hb4 HB3.out.size)
          have hx2 : ¬ x = 0 := hx
          clear hb4 hx
          go_wp2_with fail
          go_ret
          exact ⟨rfl, HB4.out⟩
        · have HB4 := Lib.hid (below_tr HB3.out hb4 HB3.out.size)
          have HMS := Lib.hid hms
          have hN := hms.le
          obtain ⟨R, hRe⟩ : ∃ R, R = rs.length := ⟨_, rfl⟩
          obtain ⟨N, hNe⟩ : ∃ N, N = cntS rs := ⟨_, rfl⟩
          rw [← hRe] at hr6
          rw [← hNe] at hN
          have HRE := Lib.hid hRe; have HNE := Lib.hid hNe
          clear hb4 hms HB3 HNW hRe hNe
          go_wp2_with fail
          have hR0 : rs.length ≤ 1000 := by rw [← HRE.out]; omega
          go_loopw [9] (fun i wq => ∃ k1 : Nat, k1 ≤ R ∧ i = .int .i64 k1 ∧ Hid (Below w4.heap.size w4 wq)) (fun i _ => R - (intOf i).toNat)
          case atStart => exact ⟨0, Nat.zero_le _, rfl, Lib.hid (Below.refl _ _)⟩
          case round =>
            rename_i wb _
            obtain ⟨k1, hk1, rfl, HB⟩ := hrel
            have HRM := Lib.hid (rules_ms wr B mb rs (HMS.out.below HB.out))
            rw [← HRE.out] at HRM
            by_cases hlt1 : k1 < R
            · have hki : (k1 : Int) < R := by omega
              have hk0 : (0 : Int) ≤ k1 := by omega
              obtain ⟨lf, lk, hlf, hlk, hiff⟩ := firsts (rs := rs) (i := k1) (by rw [← HRE.out]; exact hlt1)
              have HFI := Lib.hid (first_any wr B mb rs (HMS.out.below HB.out) hR0 k1 lf hlf)
              have HOF := Lib.hid (fstS_own hlf); have HOK := Lib.hid (lstS_own hlk)
              have hlf2 := (fstS_get hlf).2
              have hlk2 := (lstS_get hlk).2
              obtain ⟨nf, hnf⟩ : ∃ nf, nf = lf.length := ⟨_, rfl⟩
              obtain ⟨nk, hnk⟩ : ∃ nk, nk = lk.length := ⟨_, rfl⟩
              rw [← hnf, ← HNE.out] at hlf2
              rw [← hnk, ← HNE.out] at hlk2
              rw [← hnf] at HFI
              have heq := eqlen nf nk (by rw [hnf, hnk]; simpa [List.length_eq_zero_iff] using hiff)
              have HLK := Lib.hid hlk; have HNF := Lib.hid hnf; have HNK := Lib.hid hnk; have HEQ := Lib.hid heq
              clear hlf hlk hiff hnf hnk heq
              go_wp2_with (first | (go_at_call 18; refine HRM.out.mono ?_; rintro e w5 ⟨rfl, rfl⟩))
              refine HFI.out.mono ?_
              rintro e w6 ⟨v, rfl, ho, hb6⟩
              obtain ⟨Af, cf, rfl, _⟩ := own_form ho
              have HLA := Lib.hid (last_any w6 B mb rs (HMS.out.below (below_tr HB.out hb6 HB.out.size)) hR0 k1 lk HLK.out)
              rw [← HNK.out] at HLA
              have HB6 := Lib.hid (below_tr HB.out hb6 HB.out.size)
              have HNSf := Lib.hid (own_ns ho)
              clear ho hb6 HFI HRM
              go_wp2_with fail
              refine HLA.out.mono ?_
              rintro e w7 ⟨v, rfl, ho, hb7⟩
              obtain ⟨Ak, ck, rfl, _⟩ := own_form ho
              have HB7 := Lib.hid (below_tr HB6.out hb7 HB6.out.size)
              have HNS7 := Lib.hid (HNSf.out.below hb7)
              have HNSk := Lib.hid (own_ns ho)
              clear ho hb7 HLA HNSf HB6
              have heq := HEQ.out
              go_wp2_with fail
              have hnf2 : nf ≤ 2000 := by omega
              have hnk2 : nk ≤ 2000 := by omega
              go_loopw [12] (fun j wq => ∃ j1 : Nat, j1 ≤ nf ∧ j = .int .i64 j1 ∧ Hid (wq = w7)) (fun j _ => nf - (intOf j).toNat)
              case atStart => exact ⟨0, Nat.zero_le _, rfl, Lib.hid (by trivial)⟩
              case round =>
                obtain ⟨j1, hj1, rfl, HW⟩ := hrel
                have hw := HW.out
                subst hw
                clear HW
                by_cases hltj : j1 < nf
                · have hji : (j1 : Int) < nf := by omega
                  have hj0 : (0 : Int) ≤ j1 := by omega
                  obtain ⟨q, hq⟩ : ∃ q, lf[j1]? = some q := ⟨_, List.getElem?_eq_getElem (by rw [← HNF.out]; exact hltj)⟩
                  obtain ⟨g, rfl, hcq⟩ := HNS7.out.get hq
                  obtain ⟨o1, o2⟩ := HOF.out q (List.mem_of_getElem? hq)
                  have HRO := Lib.hid (ruleOf_any wr B mb rs (HMS.out.below HB7.out) q k1 o1 o2)
                  clear hq o1 o2
                  go_wp2_with (first | (go_at_call 21; refine HRO.out.mono ?_; rintro e w8 ⟨rfl, rfl⟩))
                  go_roundw
                  case rel => exact ⟨j1 + 1, by omega, by go_num, Lib.hid (by trivial)⟩
                  case measure => simp [intOf]; omega
                · obtain rfl : j1 = nf := by omega
                  go_wp2_with fail
                  go_loopw [13] (fun j wq => ∃ j1 : Nat, j1 ≤ nk ∧ j = .int .i64 j1 ∧ Hid (wq = wr)) (fun j _ => nk - (intOf j).toNat)
                  case atStart => exact ⟨0, Nat.zero_le _, rfl, Lib.hid (by trivial)⟩
                  case round =>
                    obtain ⟨j2, hj2, rfl, HW⟩ := hrel
                    have hw := HW.out
                    subst hw
                    clear HW
                    by_cases hltk : j2 < nk
                    · have hji : (j2 : Int) < nk := by omega
                      have hj0 : (0 : Int) ≤ j2 := by omega
                      obtain ⟨q, hq⟩ : ∃ q, lk[j2]? = some q := ⟨_, List.getElem?_eq_getElem (by rw [← HNK.out]; exact hltk)⟩
                      obtain ⟨g, rfl, hcq⟩ := HNSk.out.get hq
                      obtain ⟨o1, o2⟩ := HOK.out q (List.mem_of_getElem? hq)
                      have HRO := Lib.hid (ruleOf_any wr B mb rs (HMS.out.below HB7.out) q k1 o1 o2)
                      clear hq o1 o2
                      go_wp2_with (first | (go_at_call 21; refine HRO.out.mono ?_; rintro e w8 ⟨rfl, rfl⟩))
                      go_roundw
                      case rel => exact ⟨j2 + 1, by omega, by go_num, Lib.hid (by trivial)⟩
                      case measure => simp [intOf]; omega
                    · obtain rfl : j2 = nk := by omega
                      go_wp2_with fail
                      go_roundw
                      case rel => exact ⟨k1 + 1, by omega, by go_num, HB7⟩
                      case measure => simp [intOf]; omega
            · obtain rfl : k1 = R := by omega
              go_wp2_with (first | (go_at_call 18; refine HRM.out.mono ?_; rintro e w5 ⟨rfl, rfl⟩))
              clear HRM
              go_loopw [14] (fun i wq => ∃ p1 : Nat, p1 ≤ N ∧ i = .int .i64 p1 ∧ Hid (Below w4.heap.size w4 wq)) (fun i _ => N - (intOf i).toNat)
              case atStart => exact ⟨0, Nat.zero_le _, rfl, HB⟩
              case round =>
                clear HB
                obtain ⟨p1, hp1, rfl, HB⟩ := hrel
                have HLM := Lib.hid (len_ms wr B mb rs (HMS.out.below HB.out))
                rw [← HNE.out] at HLM
                by_cases hltp : p1 < N
                · have hpi : (p1 : Int) < N := by omega
                  have hp0 : (0 : Int) ≤ p1 := by omega
                  have HFO := Lib.hid (follow_any wr B mb rs (HMS.out.below HB.out) (HT.out.below (below_tr HB4.out HB.out HB4.out.size)) p1 (by rw [← HNE.out]; exact hltp))
                  have HPN := Lib.hid (show p1 < cntS rs by rw [← HNE.out]; exact hltp)
                  go_wp2_with (first | (go_at_call 17; refine HLM.out.mono ?_; rintro e w6 ⟨rfl, rfl⟩))
                  refine HFO.out.mono ?_
                  rintro e w7 ⟨v, l, rfl, ho, hmem, _, hlen, hb7⟩
                  obtain ⟨Al, cl, rfl, _⟩ := own_form ho
                  have HB7 := Lib.hid (below_tr HB.out hb7 HB.out.size)
                  have HNS := Lib.hid (own_ns ho)
                  have HME := Lib.hid hmem
                  obtain ⟨nl, hnl⟩ : ∃ nl, nl = l.length := ⟨_, rfl⟩
                  rw [← hnl] at hlen ⊢
                  have HNL := Lib.hid hnl
                  clear ho hmem hb7 hnl HFO HLM
                  go_wp2_with fail
                  go_loopw [16] (fun j wq => ∃ j1 : Nat, j1 ≤ nl ∧ j = .int .i64 j1 ∧ Hid (wq = w7)) (fun j _ => nl - (intOf j).toNat)
                  case atStart => exact ⟨0, Nat.zero_le _, rfl, Lib.hid (by trivial)⟩
                  case round =>
                    obtain ⟨j1, hj1, rfl, HW⟩ := hrel
                    have hw := HW.out
                    subst hw
                    clear HW
                    by_cases hltj : j1 < nl
                    · have hji : (j1 : Int) < nl := by omega
                      have hj0 : (0 : Int) ≤ j1 := by omega
                      obtain ⟨q, hq⟩ : ∃ q, l[j1]? = some q := ⟨_, List.getElem?_eq_getElem (by rw [← HNL.out]; exact hltj)⟩
                      obtain ⟨g, rfl, hcq⟩ := HNS.out.get hq
                      have hfq := (HME.out q).1 (List.mem_of_getElem? hq)
                      obtain ⟨ρ, o1, o2⟩ := folS_own HPN.out hfq
                      have HRP := Lib.hid (ruleOf_any wr B mb rs (HMS.out.below HB7.out) p1 ρ HPN.out o1)
                      have HRQ := Lib.hid (ruleOf_any wr B mb rs (HMS.out.below HB7.out) q ρ (folS_lt HPN.out hfq) o2)
                      clear hq o1 o2 hfq
                      go_wp2_with (first | (go_at_call 21; first | (refine HRQ.out.mono ?_; rintro e w8 ⟨rfl, rfl⟩; clear HRQ) | (refine HRP.out.mono ?_; rintro e w9 ⟨rfl, rfl⟩)))
                      go_roundw
                      case rel => exact ⟨j1 + 1, by omega, by go_num, Lib.hid (by trivial)⟩
                      case measure => simp [intOf]; omega
                    · obtain rfl : j1 = nl := by omega
                      go_wp2_with fail
                      go_roundw
                      case rel => exact ⟨p1 + 1, by omega, by go_num, HB7⟩
                      case measure => simp [intOf]; omega
                · obtain rfl : p1 = N := by omega
                  go_wp2_with (first | (go_at_call 17; refine HLM.out.mono ?_; rintro e w6 ⟨rfl, rfl⟩))
                  go_ret
                  exact ⟨rfl, below_tr HB4.out HB.out HB4.out.size⟩
end Go.Proofs.YtejdfpieblkapaaGreatDoor
