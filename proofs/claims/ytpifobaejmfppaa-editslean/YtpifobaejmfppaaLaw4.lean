/- The law EditsLean, walked. -/
import Derived.Test.YtpifobaejmfppaaLaw4m
import Derived.Test.YtpifobaejmfppaaLaw1
namespace Go.Proofs.Ytpifobaejmfppaa
open Go.RowKit

set_option maxRecDepth 100000 in
set_option maxHeartbeats 1000000 in
theorem law_lean_great (s : ByteArray) (A : Option Addr) (len cap : Nat) (l : List Ed) (w : World) (hlen : l.length = len) (hl : len ≤ cap) (hcap : cap ≤ 9223372036854775807) (hE : EdsAt w w.heap.size A l)
    (h : 300 < s.size ∨ greatB l = true) : Calls Try.prog 4 #[.string s, .slice A len cap] w (Fine w) := by
  have HC := Lib.hid (great_any A len cap l w hlen hl hcap hE); clear hlen
  by_cases h3 : 300 < s.size
  · clear h
    go_enter Try.func4, Try.ntmps4
    go_wp2_with fail
    refine (awake_any _).mono ?_
    rintro e w1 ⟨rfl, hb⟩
    go_wp2
    go_ret
    exact ⟨rfl, hb⟩
  · have hg := Lib.hid (h.resolve_left h3)
    clear h
    go_enter Try.func4, Try.ntmps4
    go_wp2_with fail
    refine HC.out.mono ?_
    rintro e w1 ⟨rfl, rfl⟩
    rw [hg.out]
    go_wp2_with fail
    refine (awake_any _).mono ?_
    rintro e w1 ⟨rfl, hb⟩
    go_wp2
    go_ret
    exact ⟨rfl, hb⟩

set_option maxRecDepth 100000 in
set_option maxHeartbeats 1000000 in
theorem law_lean_no (s : ByteArray) (A : Option Addr) (len cap : Nat) (l : List Ed) (w : World) (hlen : l.length = len) (hl : len ≤ cap) (hcap : cap ≤ 9223372036854775807) (hE : EdsAt w w.heap.size A l)
    (h3 : s.size ≤ 300) (hg : greatB l = false) (hR : rightB 0 s.size l = false) : Calls Try.prog 4 #[.string s, .slice A len cap] w (Fine w) := by
  have HC := Lib.hid (great_any A len cap l w hlen hl hcap hE)
  have HL := Lib.hid hlen; clear hlen
  have HG := Lib.hid hg; clear hg
  have HR := Lib.hid hR; clear hR
  have g3 : decide (300 < (s.size : Int)) = false := by simp; omega
  go_enter Try.func4, Try.ntmps4
  go_wp2_with fail
  refine HC.out.mono ?_
  rintro e w0 ⟨rfl, rfl⟩
  rw [HG.out]
  go_wp2_with fail
  refine (lean_no s A len cap l _ HL.out hl hcap hE HR.out).mono ?_
  rintro e w1 ⟨rfl, hb1⟩
  go_wp2_with fail
  refine (rright_any s.size A len cap l _ HL.out hl hcap ((hE.below hb1).more hb1.size)).mono ?_
  rintro e w3 ⟨rfl, hb3⟩
  rw [HR.out]
  have hb3' := below_tr hb1 hb3 hb1.size
  clear hb3
  go_wp2_with fail
  refine (awake_any _).mono ?_
  rintro e w5 ⟨rfl, hb5⟩
  have hb5' := below_tr hb3' hb5 hb3'.size
  clear hb5
  go_wp2
  go_ret
  exact ⟨rfl, hb5'⟩

set_option maxRecDepth 100000 in
set_option maxHeartbeats 4000000 in
theorem law_lean_yes (s : ByteArray) (A : Option Addr) (len cap : Nat) (l : List Ed) (w : World) (hlen : l.length = len) (hl : len ≤ cap) (hcap : cap ≤ 9223372036854775807) (hE : EdsAt w w.heap.size A l)
    (h3 : s.size ≤ 300) (hg : greatB l = false) (hR : rightB 0 s.size l = true) : Calls Try.prog 4 #[.string s, .slice A len cap] w (Fine w) := by
  have HC := Lib.hid (great_any A len cap l w hlen hl hcap hE)
  have hsm := small_of_not_great hg
  have hS : s.size + tot l ≤ 1099511627776 := by omega
  have hlm : len ≤ 30 := by omega
  have hsz : s.data.toList.length = s.size := (Lib.size_eq s).symm
  have hR' : rightB ((0 : Nat) : Int) s.data.toList.length l = true := by rw [hsz]; exact hR
  have hUr : rightB 0 s.size (leanAll s.data.toList l) = true := by rw [← hsz]; exact right_leanAll s.data.toList l 0 (by omega) hR'
  have hUa := appl_leanAll s.data.toList l 0 hR'
  have hUt := tot_leanAll s.data.toList l
  have hUl := leanAll_len s.data.toList l
  have HM := Lib.hid (right_mod hR (by omega) (by omega))
  have HLA := Lib.hid (fun i e => @lean_at s.data.toList l i e hR')
  have HUr := Lib.hid hUr; have HUa := Lib.hid hUa
  have hml : (leanAll s.data.toList l).length ≤ 30 := by omega
  have HUS := Lib.hid (show s.size + tot (leanAll s.data.toList l) ≤ 1099511627776 by omega)
  obtain ⟨ml, hmle⟩ : ∃ ml, ml = (leanAll s.data.toList l).length := ⟨_, rfl⟩
  have HML := Lib.hid hmle.symm
  have hml2 : ml ≤ 30 := by omega
  clear hUr hUa hUt hUl hR' hsm hml hmle
  have HSZ := Lib.hid hsz; clear hsz
  have HL := Lib.hid hlen; clear hlen
  have HG := Lib.hid hg; clear hg
  have HR := Lib.hid hR; clear hR
  have g3 : decide (300 < (s.size : Int)) = false := by simp; omega
  go_enter Try.func4, Try.ntmps4
  go_wp2_with fail
  refine HC.out.mono ?_
  rintro e w0 ⟨rfl, rfl⟩
  rw [HG.out]
  go_wp2_with fail
  refine (lean_yes s A len cap l _ HL.out hl hcap (by omega) hE HR.out hS).mono ?_
  rintro x w1 ⟨A2, c2, rfl, g1, g2, ho, hb1⟩
  rw [HML.out] at ho g1 ⊢
  have HE1 := Lib.hid (eds_of_own ho)
  clear ho
  go_wp2_with fail
  refine (rright_any s.size A len cap l _ HL.out hl hcap ((hE.below hb1).more hb1.size)).mono ?_
  rintro x w2 ⟨rfl, hb2⟩
  rw [HR.out]
  have hb2' := below_tr hb1 hb2 hb1.size
  have HE2 := Lib.hid ((HE1.out.below hb2).more hb2.size)
  clear hb2 HE1
  go_wp2_with fail
  refine (rright_any s.size A2 ml c2 (leanAll s.data.toList l) _ HML.out g1 g2 HE2.out).mono ?_
  rintro x w3 ⟨rfl, hb3⟩
  rw [HUr.out]
  have hb3' := below_tr hb2' hb3 hb2'.size
  have HE3 := Lib.hid ((HE2.out.below hb3).more hb3.size)
  clear hb3 HE2
  go_wp2_with fail
  refine (rapply_any s A2 ml c2 (leanAll s.data.toList l) _ HML.out g1 g2 HE3.out HUr.out HUS.out).mono ?_
  rintro x w4 ⟨rfl, hb4⟩
  rw [HUa.out]
  have hb4' := below_tr hb3' hb4 hb3'.size
  have HE4 := Lib.hid ((HE3.out.below hb4).more hb4.size)
  clear hb4 HE3
  go_wp2_with fail
  refine (rapply_any s A len cap l _ HL.out hl hcap ((hE.below hb4').more hb4'.size) HR.out hS).mono ?_
  rintro x w5 ⟨rfl, hb5⟩
  have hb5' := below_tr hb4' hb5 hb4'.size
  have HE5 := Lib.hid ((HE4.out.below hb5).more hb5.size)
  clear hb5 HE4 hb4' hb3' hb2' hb1
  generalize (⟨(appl s.data.toList 0 l).toArray⟩ : ByteArray) = T at *
  go_wp2_with fail
  go_loopw [7, 8] (fun kk i wr => ∃ (k n : Nat), k ≤ len ∧ n ≤ k ∧ n ≤ ml ∧ i = .int .i64 k ∧ kk = .int .i64 n ∧ Hid ((leanAll s.data.toList (l.take k)).length = n) ∧ w5.heap.size ≤ wr.heap.size ∧ Hid (EdsAt wr w5.heap.size A2 (leanAll s.data.toList l)) ∧ Below w.heap.size w wr) (fun _ i _ => len - (intOf i).toNat)
  case atStart => exact ⟨0, 0, Nat.zero_le _, Nat.le_refl _, Nat.zero_le _, rfl, rfl, rfl, Nat.le_refl _, HE5.out, hb5'⟩
  case round =>
    clear hb5' HE5
    obtain ⟨k, n, hk, hnk, hnm, rfl, rfl, HN, hzw, HEr, hb⟩ := hrel
    by_cases hlt : k < len
    · obtain ⟨e, he⟩ := get_some l k (by rw [HL.out]; exact hlt)
      obtain ⟨m1, m2, m3, m4⟩ := HM.out e (List.mem_of_getElem? he)
      obtain ⟨_, _, q3, _⟩ := right_at HR.out he
      obtain ⟨ad, rfl, hab, c0, c1, c2⟩ := (hE.below hb) k e he
      have HN1 := Lib.hid he; clear he
      have hki : (k : Int) < len := by omega
      have hk0 : (0 : Int) ≤ k := by omega
      have hzb := hb.size
      go_wp2_with fail
      go_quiet (fail)
      have hgs : (s.extract e.f.toNat e.t.toNat).size = e.t.toNat - e.f.toNat := by rw [ByteArray.size_extract]; omega
      have hgd : goneOf s.data.toList e = (s.extract e.f.toNat e.t.toNat).data.toList := (Lib.extract_data _ _ _).symm
      generalize s.extract e.f.toNat e.t.toNat = g at *
      have hgb : g.size ≤ 1099511627776 := by omega
      have HGD := Lib.hid hgd; clear hgd hgs
      by_cases hc : goneOf s.data.toList e = e.bs
      · have q1 : (g.toList == e.s.toList) = true := by
          rw [beq_iff_eq, Lib.toList_data, Lib.toList_data, ← HGD.out]; exact hc
        have HS := Lib.hid (lean_skip HN1.out hc)
        clear hc
        go_wp2
        go_roundw
        case rel => exact ⟨k + 1, n, by omega, by omega, hnm, by go_num, rfl, by show (_ : Nat) = _; rw [HS.out]; exact HN.out, by simpa using hzw, HEr.out.keep (fun p _ => rfl), below_drewN hb _⟩
        case measure => simp [intOf]; omega
      · have q1 : (g.toList == e.s.toList) = false := by
          rw [beq_eq_false_iff_ne, Lib.toList_data, Lib.toList_data, ← HGD.out]; exact hc
        obtain ⟨e', ha, hb', hc', k0, k1, k2, k3, k4, k5, k6, k7⟩ := HLA.out k e HN1.out hc
        rw [HN.out] at ha hb' hc'
        rw [HML.out] at hb'
        rw [HGD.out] at k0
        rw [HSZ.out] at k5
        have HC' := Lib.hid hc'; have HK0 := Lib.hid k0; have HK6 := Lib.hid k6
        obtain ⟨ad', hA2, hab', b0, b1, b2⟩ := HEr.out n e' ha
        subst hA2
        clear hc ha hc' k0 k6
        have hni : (n : Int) < ml := by omega
        have hn0 : (0 : Int) ≤ n := by omega
        have hnN : n < ml := hb'
        go_wp2_with fail
        have t1 : decide ((ml : Int) ≤ (n : Int)) = false := by simp; omega
        have t1' : decide (ml ≤ n) = false := by simp; omega
        have t2 : decide (e'.f < e.f) = false := by simp; omega
        have t3 : decide (e.t < e'.t) = false := by simp; omega
        have hadz : ad.block < wr.heap.size := by omega
        have had'z : ad'.block < wr.heap.size := by omega
        go_region_held3 (fun w' => w'.cell? (ad.add (k * 3)) = some (.int .i64 e.f) ∧ w'.cell? ⟨(ad.add (k * 3)).block, (ad.add (k * 3)).off + 1, none⟩ = some (.int .i64 e.t) ∧ w'.cell? (ad'.add (n * 3)) = some (.int .i64 e'.f) ∧ w'.cell? ⟨(ad'.add (n * 3)).block, (ad'.add (n * 3)).off + 1, none⟩ = some (.int .i64 e'.t) ∧ w'.cell? ⟨(ad'.add (n * 3)).block, (ad'.add (n * 3)).off + 2, none⟩ = some (.string e'.s))
          (first
            | go_keep
            | (go_split_ands; refine ⟨?_, ?_, ?_, ?_, ?_⟩ <;> (rw [hb6.cell (by simp [add_block]; omega)]; go_keep)))
          (first
            | (go_at_call 21; refine (rlean_any s e'.s e'.f e'.t _ k1 k3 (by omega) (by omega) (by omega) HK6.out).mono ?_; rintro x w6 ⟨rfl, hb6⟩))
        have z6 := hb6.size
        simp at z6
        have hb6' : Below w.heap.size w w6 := below_tr (below_drewN hb _).drew hb6 (by simp; omega)
        have d0 : w6.cell? (ad.add (k * 3)) = some (.int .i64 e.f) := (hb6.cell (by simp [add_block]; omega)).trans c0
        have d2 : w6.cell? ⟨(ad.add (k * 3)).block, (ad.add (k * 3)).off + 2, none⟩ = some (.string e.s) := (hb6.cell (p := ⟨(ad.add (k * 3)).block, (ad.add (k * 3)).off + 2, none⟩) (by simp [add_block]; omega)).trans c2
        have b0' : w6.cell? (ad'.add (n * 3)) = some (.int .i64 e'.f) := (hb6.cell (by simp [add_block]; omega)).trans b0
        have p1 : IntKind.i64.wrap (e'.f - e.f) = e'.f - e.f := IntWalk.i64_in _ (by omega)
        go_wp2_with fail
        go_quiet (fail)
        clear p1 t1 t1' t2 t3
        go_wp2_with fail
        go_loopw [11] (fun i wq => ∃ (j : Nat), j ≤ g.size ∧ j ≤ e.s.size ∧ i = .int .i64 j ∧ Hid (∀ i, i < j → g.data.toList[i]? = e.s.data.toList[i]?) ∧ Below w6.heap.size w6 wq) (fun i _ => g.size - (intOf i).toNat)
        case atStart => exact ⟨0, Nat.zero_le _, Nat.zero_le _, rfl, fun i hi => by omega, below_drewN (Below.refl _ _) _⟩
        case round =>
          obtain ⟨j, hj1, hj2, rfl, HEQ, hb7⟩ := hrel
          have hb7' : Below w5.heap.size w6 _ := hb7.mono (by omega)
          have f2 := (hb7.cell (p := ⟨(ad.add (k * 3)).block, (ad.add (k * 3)).off + 2, none⟩) (by simp [add_block]; omega)).trans d2
          have hgl : g.data.toList.length = g.size := (Lib.size_eq g).symm
          have hel : e.s.data.toList.length = e.s.size := (Lib.size_eq e.s).symm
          have HGL := Lib.hid hgl; have HEL := Lib.hid hel
          clear hgl hel
          have hj0 : (0 : Int) ≤ j := by omega
          by_cases s1 : j < g.size
          · by_cases s2 : j < e.s.size
            · obtain ⟨a, ha⟩ := get_some g.data.toList j (by rw [HGL.out]; exact s1)
              obtain ⟨b, hbb⟩ := get_some e.s.data.toList j (by rw [HEL.out]; exact s2)
              obtain ⟨x1, y1⟩ := byte_at _ _ _ ha
              obtain ⟨x2, y2⟩ := byte_at _ _ _ hbb
              have HA := Lib.hid ha; have HB := Lib.hid hbb
              have r1 : decide ((j : Int) < (g.size : Int)) = true := by simp; omega
              have r2 : decide ((j : Int) < (e.s.size : Int)) = true := by simp; omega
              have r1' : decide (j < g.size) = true := by simp; omega
              have r2' : decide (j < e.s.size) = true := by simp; omega
              have r3 : (j : Int) < g.size := by omega
              have r4 : (j : Int) < e.s.size := by omega
              cases hab2 : (a == b) with
              | true =>
                have n1 : ((g[j].toNat : Int) == (e.s[j].toNat : Int)) = true := by rw [y1, y2, u8_beq]; exact hab2
                have HAB := Lib.hid hab2
                clear ha hbb y1 y2 hab2
                go_wp2_with fail
                go_quiet (fail)
                go_wp2
                go_roundw
                case rel =>
                  refine ⟨j + 1, by omega, by omega, by go_num, fun i hi => ?_, below_drewN hb7 _⟩
                  rcases Nat.lt_or_ge i j with h | h
                  · exact HEQ.out i h
                  · have : i = j := by omega
                    subst this
                    rw [HA.out, HB.out, beq_iff_eq.1 HAB.out]
                case measure => simp [intOf]; omega
              | false =>
                have n1 : ((g[j].toNat : Int) == (e.s[j].toNat : Int)) = false := by rw [y1, y2, u8_beq]; exact hab2
                have HLc : Hid (lcp g.data.toList e.s.data.toList = j) := lcp_of _ _ j (by rw [HGL.out]; omega) (by rw [HEL.out]; omega) HEQ.out (.inr (.inr ⟨a, b, HA.out, HB.out, by simpa using hab2⟩))
                clear ha hbb y1 y2 hab2
                go_wp2_with fail
                go_quiet (fail)
                have z1 : ((e'.f - e.f) != (j : Int)) = false := by rw [bne_eq_false_iff_eq, HK0.out, show nOf g.data.toList e.bs = j from HLc.out]; omega
                go_wp2
                go_roundw
                case rel => exact ⟨k + 1, n + 1, by omega, by omega, by omega, by go_num, by go_num, HC'.out, by have := hb7.size; simp; omega, (HEr.out.keep (fun p hp => (hb7'.cell (by omega)).trans (hb6.cell (by simp; omega)))), below_drewN (below_tr hb6' hb7 hb6'.size) _⟩
                case measure => simp [intOf]; omega
            · have HLc : Hid (lcp g.data.toList e.s.data.toList = j) := lcp_of _ _ j (by rw [HGL.out]; omega) (by rw [HEL.out]; omega) HEQ.out (.inr (.inl (by rw [HEL.out]; omega)))
              have r1 : decide ((j : Int) < (g.size : Int)) = true := by simp; omega
              have r1' : decide (j < g.size) = true := by simp; omega
              have r2 : decide ((j : Int) < (e.s.size : Int)) = false := by simp; omega
              have r2' : decide (j < e.s.size) = false := by simp; omega
              go_wp2_with fail
              go_quiet (fail)
              have z1 : ((e'.f - e.f) != (j : Int)) = false := by rw [bne_eq_false_iff_eq, HK0.out, show nOf g.data.toList e.bs = j from HLc.out]; omega
              go_wp2
              go_roundw
              case rel => exact ⟨k + 1, n + 1, by omega, by omega, by omega, by go_num, by go_num, HC'.out, by have := hb7.size; simp; omega, (HEr.out.keep (fun p hp => (hb7'.cell (by omega)).trans (hb6.cell (by simp; omega)))), below_drewN (below_tr hb6' hb7 hb6'.size) _⟩
              case measure => simp [intOf]; omega
          · have HLc : Hid (lcp g.data.toList e.s.data.toList = j) := lcp_of _ _ j (by rw [HGL.out]; omega) (by rw [HEL.out]; omega) HEQ.out (.inl (by rw [HGL.out]; omega))
            have r1 : decide ((j : Int) < (g.size : Int)) = false := by simp; omega
            have r1' : decide (j < g.size) = false := by simp; omega
            go_wp2_with fail
            go_quiet (fail)
            have z1 : ((e'.f - e.f) != (j : Int)) = false := by rw [bne_eq_false_iff_eq, HK0.out, show nOf g.data.toList e.bs = j from HLc.out]; omega
            go_wp2
            go_roundw
            case rel => exact ⟨k + 1, n + 1, by omega, by omega, by omega, by go_num, by go_num, HC'.out, by have := hb7.size; simp; omega, (HEr.out.keep (fun p hp => (hb7'.cell (by omega)).trans (hb6.cell (by simp; omega)))), below_drewN (below_tr hb6' hb7 hb6'.size) _⟩
            case measure => simp [intOf]; omega
    · have HF := Lib.hid (show n = ml by rw [← HN.out, ← HML.out, List.take_of_length_le (by rw [HL.out]; omega)])
      have z1 : ((n : Int) == (ml : Int)) = true := by rw [beq_iff_eq, HF.out]
      go_wp2_with fail
      refine (awake_any _).mono ?_
      rintro x w6 ⟨rfl, hb6⟩
      have hb6' := below_tr hb hb6 hb.size
      clear hb6
      go_wp2
      go_ret
      exact ⟨rfl, hb6'⟩

theorem law_lean (s : ByteArray) (A : Option Addr) (len cap : Nat) (l : List Ed) (w : World) (hlen : l.length = len) (hl : len ≤ cap) (hcap : cap ≤ 9223372036854775807) (hE : EdsAt w w.heap.size A l) :
    Calls Try.prog 4 #[.string s, .slice A len cap] w (Fine w) := by
  by_cases h3 : 300 < s.size
  · exact law_lean_great s A len cap l w hlen hl hcap hE (.inl h3)
  · cases hg : greatB l with
    | true => exact law_lean_great s A len cap l w hlen hl hcap hE (.inr hg)
    | false =>
      cases hR : rightB 0 s.size l with
      | true => exact law_lean_yes s A len cap l w hlen hl hcap hE (by omega) hg hR
      | false => exact law_lean_no s A len cap l w hlen hl hcap hE (by omega) hg hR
end Go.Proofs.Ytpifobaejmfppaa
