/- The law EditsMove, walked. -/
import Derived.Test.YtpifobaejmfppaaI
import Derived.Test.YtpifobaejmfppaaLaw1
namespace Go.Proofs.Ytpifobaejmfppaa
open Go.RowKit

set_option maxRecDepth 100000 in
set_option maxHeartbeats 1000000 in
theorem law_move_idle (s : ByteArray) (A : Option Addr) (len cap : Nat) (l : List Ed) (x : Int) (w : World) (hlen : l.length = len) (hl : len ≤ cap) (hcap : cap ≤ 9223372036854775807) (hE : EdsAt w w.heap.size A l)
    (h : 300 < s.size ∨ greatB l = true ∨ rightB 0 s.size l = false) : Calls Try.prog 7 #[.string s, .slice A len cap, .int .u16 x] w (Fine w) := by
  have HC := Lib.hid (great_any A len cap l w hlen hl hcap hE)
  have HCR := Lib.hid (rright_any s.size A len cap l w hlen hl hcap hE); clear hlen
  by_cases h3 : 300 < s.size
  · clear h
    go_enter Try.func7, Try.ntmps7
    go_wp2_with fail
    refine (awake_any _).mono ?_
    rintro e w1 ⟨rfl, hb⟩
    go_wp2
    go_ret
    exact ⟨rfl, hb⟩
  · cases hg : greatB l with
    | true =>
      have HG := Lib.hid hg
      clear h hg
      go_enter Try.func7, Try.ntmps7
      go_wp2_with fail
      refine HC.out.mono ?_
      rintro e w1 ⟨rfl, rfl⟩
      rw [HG.out]
      go_wp2_with fail
      refine (awake_any _).mono ?_
      rintro e w1 ⟨rfl, hb⟩
      go_wp2
      go_ret
      exact ⟨rfl, hb⟩
    | false =>
      have HR := Lib.hid ((h.resolve_left h3).resolve_left (by rw [hg]; simp))
      have HG := Lib.hid hg
      clear h hg
      go_enter Try.func7, Try.ntmps7
      go_wp2_with fail
      refine HC.out.mono ?_
      rintro e w1 ⟨rfl, rfl⟩
      rw [HG.out]
      go_wp2_with fail
      refine HCR.out.mono ?_
      rintro e w1 ⟨rfl, hb1⟩
      rw [HR.out]
      go_wp2_with fail
      refine (awake_any _).mono ?_
      rintro e w2 ⟨rfl, hb⟩
      have hb' := below_tr hb1 hb hb1.size
      clear hb
      go_wp2
      go_ret
      exact ⟨rfl, hb'⟩

/-- Which edit a place is within. -/
def InRel (K : Int) (l : List Ed) (j : Nat) (q : Int) : Prop :=
  (q = -1 ∧ ∀ e ∈ l.take j, ¬ (e.f < K ∧ K < e.t)) ∨ ∃ (i : Nat) (e : Ed), q = i ∧ l[i]? = some e ∧ e.f < K ∧ K < e.t

theorem InRel.step {K : Int} {l : List Ed} {j : Nat} {q : Int} {e : Ed} (h : InRel K l j q) (he : l[j]? = some e) (hn : ¬ (e.f < K ∧ K < e.t)) : InRel K l (j + 1) q := by
  rcases h with ⟨h1, h2⟩ | h
  · refine .inl ⟨h1, fun x hx => ?_⟩
    rw [take_snoc_of he, List.mem_append] at hx
    rcases hx with hx | hx
    · exact h2 x hx
    · rw [List.mem_singleton.1 hx]; exact hn
  · exact .inr h

theorem move_fin {n : Int} {l : List Ed} {K q : Int} (hR : rightB 0 n l = true) (_h0 : 0 ≤ K) (_h1 : K ≤ n) (h : InRel K l l.length q) :
    ∃ W : Int, 0 ≤ W ∧ W ≤ K ∧ ((q = -1 ∧ W = K) ∨ ∃ (i : Nat) (e : Ed), q = i ∧ l[i]? = some e ∧ W = e.f) ∧ rightB 0 W (l.filter fun e => decide (e.t ≤ K)) = true ∧ mv K l = (W, sumGr (l.filter fun e => decide (e.t ≤ K))) := by
  have h2 := fold2 K l K 0
  rcases h with ⟨hq, hn⟩ | ⟨i, e, hq, he, e1, e2⟩
  · refine ⟨K, by omega, by omega, .inl ⟨hq, rfl⟩, right_filter _ hR (fun e _ hp => by simpa using hp), ?_⟩
    rw [List.take_length] at hn
    refine Prod.ext (fold1_none K l 0 hn) ?_
    rw [mv, h2]; simp
  · obtain ⟨r1, r2, r3, r4⟩ := right_at hR he
    refine ⟨e.f, by omega, by omega, .inr ⟨i, e, hq, he, rfl⟩, ?_, ?_⟩
    · refine right_filter _ hR fun x hx hp => ?_
      have hp' : x.t ≤ K := by simpa using hp
      obtain ⟨j, hj⟩ := List.mem_iff_getElem?.1 hx
      obtain ⟨x1, x2, x3, x4⟩ := right_at hR hj
      rcases Nat.lt_trichotomy i j with hij | hij | hij
      · have hm : x ∈ l.drop (i + 1) := List.mem_iff_getElem?.2 ⟨j - (i + 1), by rw [List.getElem?_drop, show i + 1 + (j - (i + 1)) = j by omega]; exact hj⟩
        have := right_ge r4 x hm
        omega
      · subst hij; rw [he] at hj; cases hj; omega
      · have hm : e ∈ l.drop (j + 1) := List.mem_iff_getElem?.2 ⟨i - (j + 1), by rw [List.getElem?_drop, show j + 1 + (i - (j + 1)) = i by omega]; exact he⟩
        have := right_ge x4 e hm
        omega
    · refine Prod.ext (fold1_in K n l 0 0 i e hR he e1 e2) ?_
      rw [mv, h2]; simp

set_option maxRecDepth 100000 in
set_option maxHeartbeats 2000000 in
theorem law_move_yes (s : ByteArray) (A : Option Addr) (len cap : Nat) (l : List Ed) (x : Int) (w : World) (hlen : l.length = len) (hl : len ≤ cap) (hcap : cap ≤ 9223372036854775807) (hE : EdsAt w w.heap.size A l) (hx0 : 0 ≤ x) (hx1 : x ≤ 65535)
    (h3 : s.size ≤ 300) (hg : greatB l = false) (hR : rightB 0 s.size l = true) : Calls Try.prog 7 #[.string s, .slice A len cap, .int .u16 x] w (Fine w) := by
  have hsm := small_of_not_great hg
  have hS : s.size + tot l ≤ 1099511627776 := by omega
  have hlm : len ≤ 30 := by omega
  have HM := Lib.hid (right_mod hR (by omega) (by omega))
  have HC := Lib.hid (great_any A len cap l w hlen hl hcap hE)
  have HCR := Lib.hid (rright_any s.size A len cap l w hlen hl hcap hE)
  clear hsm
  have HL := Lib.hid hlen; clear hlen
  have HG := Lib.hid hg; clear hg
  have HR := Lib.hid hR; clear hR
  have g3 : decide (300 < (s.size : Int)) = false := by simp; omega
  go_enter Try.func7, Try.ntmps7
  go_wp2_with fail
  refine HC.out.mono ?_
  rintro e w1 ⟨rfl, rfl⟩
  rw [HG.out]
  go_wp2_with fail
  refine HCR.out.mono ?_
  rintro e w1 ⟨rfl, hb1⟩
  rw [HR.out]
  go_wp2_with fail
  have hk0 : 0 ≤ x % ((s.size : Int) + 1) := Int.emod_nonneg _ (by omega)
  have hk1 : x % ((s.size : Int) + 1) ≤ s.size := by have := Int.emod_lt_of_pos x (show (0 : Int) < (s.size : Int) + 1 by omega); omega
  generalize x % ((s.size : Int) + 1) = K at *
  go_loopw [9, 10] (fun a i wr => ∃ (j : Nat) (c : Int), j ≤ len ∧ i = .int .i64 ((j : Int) - 1) ∧ a = .int .i64 c ∧ Hid (c = costs (l.drop j)) ∧ 0 ≤ c ∧ c ≤ ((len : Int) - j) * 2199023255552 ∧ Below w.heap.size w wr) (fun _ i _ => (intOf i + 1).toNat)
  case atStart => exact ⟨len, 0, Nat.le_refl _, rfl, rfl, by show _ = _; rw [List.drop_of_length_le (by rw [HL.out]; exact Nat.le_refl _)]; rfl, by omega, by omega, hb1⟩
  case round =>
    obtain ⟨j, c, hj, rfl, rfl, HX, x0, x1, hb⟩ := hrel
    cases j with
    | zero =>
      have HXX : Hid (c = costs l) := HX
      clear HX
      go_wp2_with fail
      go_loop [11, 12] (fun r i => ∃ (j : Nat) (q : Int), j ≤ len ∧ i = .int .i64 j ∧ r = .int .i64 q ∧ InRel K l j q) (fun _ i => len - (intOf i).toNat)
      case atStart => exact ⟨0, -1, Nat.zero_le _, rfl, rfl, .inl ⟨rfl, fun e he => by simp at he⟩⟩
      case round =>
        obtain ⟨j, q, hj2, rfl, rfl, HI⟩ := hrel
        by_cases hlt : j < len
        · obtain ⟨e, he⟩ := get_some l j (by rw [HL.out]; exact hlt)
          obtain ⟨ad, rfl, hab, c0, c1, c2⟩ := (hE.below hb) j e he
          have HN := Lib.hid he; clear he
          by_cases t1 : e.f < K
          · by_cases t2 : K < e.t
            · go_wp2
              go_round
              case rel => exact ⟨j + 1, j, by omega, by go_num, rfl, .inr ⟨j, e, rfl, HN.out, t1, t2⟩⟩
              case measure => simp [intOf]; omega
            · go_wp2
              go_round
              case rel => exact ⟨j + 1, q, by omega, by go_num, rfl, HI.step HN.out (by omega)⟩
              case measure => simp [intOf]; omega
          · go_wp2
            go_round
            case rel => exact ⟨j + 1, q, by omega, by go_num, rfl, HI.step HN.out (by omega)⟩
            case measure => simp [intOf]; omega
        · have hjl : j = len := by omega
          have HI' := Lib.hid (show InRel K l l.length q by rw [HL.out, ← hjl]; exact HI)
          clear HI hjl
          obtain ⟨i0, hi0, hz0, hz1, hz2⟩ := info_parts Try.info35
          have HI0 := Lib.hid hi0
          have HZ0 := Lib.hid hz0
          have HZ1 := Lib.hid hz1
          have HZ2 := Lib.hid hz2
          clear hi0 hz0 hz1 hz2
          go_wp2_with fail
          go_loopw [13, 14] (fun v i w3 => ∃ (k n c' : Nat) (A' : Option Addr), k ≤ len ∧ n ≤ k ∧ i = .int .i64 k ∧ v = .slice A' n c' ∧ Hid (((l.take k).filter fun e => decide (e.t ≤ K)).length = n) ∧ Hid (w3.ownsRow w.heap.size 35 3 (.slice A' n c') n (edCells ((l.take k).filter fun e => decide (e.t ≤ K)))) ∧ Below w.heap.size w w3) (fun _ i _ => len - (intOf i).toNat)
          case atStart => exact ⟨0, 0, 0, none, Nat.zero_le _, Nat.le_refl _, rfl, rfl, rfl, World.ownsRow_nil _ _ _ _, hb⟩
          case round =>
            clear hb
            obtain ⟨k, n, c', A', hk, hnk, rfl, rfl, HN, HO, hb⟩ := hrel
            by_cases hlt3 : k < len
            · obtain ⟨e, he⟩ := get_some l k (by rw [HL.out]; exact hlt3)
              obtain ⟨ad, rfl, hab, c0, c1, c2⟩ := (hE.below hb) k e he
              have HT := Lib.hid (take_snoc_of he); clear he
              have hzb := hb.size
              by_cases t1 : e.t ≤ K
              · have HF := Lib.hid (show ((l.take (k + 1)).filter fun e => decide (e.t ≤ K)) = ((l.take k).filter fun e => decide (e.t ≤ K)) ++ [e] by rw [HT.out, List.filter_append]; simp [t1])
                go_wp2_with (at_builtin; refine wpList_append_lies _ rfl _ _ 22 rfl w.heap.size 35 i0 _ 3 32 Try.underlying22 HI0.out HZ0.out HZ1.out HZ2.out rfl (by omega) (.slice A' n c') n _ rfl (HO.out.alloc _) ⟨wr.heap.size, 0, none⟩ 1 1 [.int .i64 e.f, .int .i64 e.t, .string e.s] rfl rfl (World.news_of_block (cs := #[.int .i64 e.f, .int .i64 e.t, .string e.s]) (t := 35) (fr := (0, 0)) (heap_alloc_new wr _)) (by simp [Value.oneCell']) (by omega) (by unfold maxLen; omega) (by omega) (by simp; omega) (wr.heap.size + 1) (by simp) ?_)
                intro gg cap6 w6 hown6 hgrow6 hat6 hlt6
                have hb6 : Below w.heap.size w w6 := (hb.alloc hzb _).grown hgrow6 (by simp; omega) (fun g hg => (HO.out.lt g hg).1)
                have HO6 := Lib.hid hown6
                clear hown6 hgrow6 hat6 hlt6
                go_wp2
                go_roundw
                case rel =>
                  refine ⟨k + 1, n + 1, cap6, some ⟨gg, 0, none⟩, by omega, by omega, by go_num, rfl, ?_, ?_, hb6⟩
                  · show (_ : Nat) = _
                    rw [HF.out, List.length_append, HN.out]; rfl
                  · show World.ownsRow _ _ _ _ _ _ _
                    rw [HF.out, edCells_append]; exact HO6.out
                case measure => simp [intOf]; omega
              · have HF := Lib.hid (show ((l.take (k + 1)).filter fun e => decide (e.t ≤ K)) = ((l.take k).filter fun e => decide (e.t ≤ K)) by rw [HT.out, List.filter_append]; simp [t1])
                go_wp2
                go_roundw
                case rel => exact ⟨k + 1, n, c', A', by omega, by omega, by go_num, rfl, by show (_ : Nat) = _; rw [HF.out]; exact HN.out, by show World.ownsRow _ _ _ _ _ _ _; rw [HF.out]; exact HO.out, hb⟩
                case measure => simp [intOf]; omega
            · have hkl : l.take k = l := List.take_of_length_le (by rw [HL.out]; omega)
              have hN := HN.out
              have hO := HO.out
              rw [hkl] at hN hO
              obtain ⟨W, hW0, hW1, hWq, hWr, hWm⟩ := move_fin HR.out hk0 hk1 HI'.out
              have hft := tot_filter (fun e => decide (e.t ≤ K)) l
              have hed := eds_of_own hO
              obtain ⟨gc, gcm⟩ := own_cap hO
              clear HN HO hO hkl HI' HI0 HZ0 HZ1 HZ2
              generalize (l.filter fun e => decide (e.t ≤ K)) = D at *
              have hTs : ((⟨(appl (s.extract 0 W.toNat).data.toList 0 D).toArray⟩ : ByteArray).size : Int) = W + sumGr D := by
                have hx : (s.extract 0 W.toNat).data.toList.length = W.toNat := by rw [← Lib.size_eq, ByteArray.size_extract]; omega
                have := appl_len (s.extract 0 W.toNat).data.toList D 0 (Nat.zero_le _) (by rw [hx, Int.toNat_of_nonneg hW0]; exact hWr)
                rw [Lib.size_eq]
                simp only [hx] at this
                simp only [this]; omega
              have hxs : (s.extract 0 W.toNat).size = W.toNat := by rw [ByteArray.size_extract]; omega
              have HN := Lib.hid hN; have HE3 := Lib.hid hed; have HWr := Lib.hid hWr; have HWm := Lib.hid hWm; have HTs := Lib.hid hTs; have Hxs := Lib.hid hxs
              have hDt : tot D ≤ tot l := hft
              clear hN hed hWr hWm hTs hxs hft
              rcases hWq with ⟨rfl, rfl⟩ | ⟨i, e, rfl, he, rfl⟩
              · go_wp2_with fail
                refine (rapply_any _ A' n c' D _ HN.out gc gcm HE3.out (by rw [Hxs.out, Int.toNat_of_nonneg hW0]; exact HWr.out) (by rw [Hxs.out]; omega)).mono ?_
                rintro e' w5 ⟨rfl, hb5⟩
                have hb5' := below_tr hb hb5 hb.size
                clear hb5
                have HT := HTs
                clear HTs
                generalize (⟨(appl (s.extract 0 (W).toNat).data.toList 0 D).toArray⟩ : ByteArray) = T at *
                go_wp2_with fail
                refine (move_any W _ len cap l _ HL.out hl hcap (by omega) ((hE.below hb5').more hb5'.size) HM.out hk0 (by omega)).mono ?_
                rintro e' w6 ⟨rfl, hb6⟩
                have hb6' := below_tr hb5' hb6 hb5'.size
                clear hb6
                rw [show (mv W l).1 + (mv W l).2 = (T.size : Int) by rw [HWm.out]; exact HT.out.symm]
                go_wp2_with fail
                refine (cost_any _ len cap l _ HL.out hl hcap (by omega) ((hE.below hb6').more hb6'.size) HM.out).mono ?_
                rintro e' w7 ⟨rfl, hb7⟩
                have hb7' := below_tr hb6' hb7 hb6'.size
                clear hb7
                rw [← HXX.out]
                go_wp2_with fail
                refine (awake_any _).mono ?_
                rintro e' w8 ⟨rfl, hb8⟩
                have hb8' := below_tr hb7' hb8 hb7'.size
                clear hb8
                go_wp2
                go_ret
                exact ⟨rfl, hb8'⟩
              · obtain ⟨ad, rfl, hab, c0, c1, c2⟩ := (hE.below hb) i e he
                have hil : i < len := by have := (List.getElem?_eq_some_iff.1 he).1; rw [HL.out] at this; exact this
                clear he
                go_wp2_with fail
                refine (rapply_any _ A' n c' D _ HN.out gc gcm HE3.out (by rw [Hxs.out, Int.toNat_of_nonneg hW0]; exact HWr.out) (by rw [Hxs.out]; omega)).mono ?_
                rintro e' w5 ⟨rfl, hb5⟩
                have hb5' := below_tr hb hb5 hb.size
                clear hb5
                have HT := HTs
                clear HTs
                generalize (⟨(appl (s.extract 0 (e.f).toNat).data.toList 0 D).toArray⟩ : ByteArray) = T at *
                go_wp2_with fail
                refine (move_any K _ len cap l _ HL.out hl hcap (by omega) ((hE.below hb5').more hb5'.size) HM.out hk0 (by omega)).mono ?_
                rintro e' w6 ⟨rfl, hb6⟩
                have hb6' := below_tr hb5' hb6 hb5'.size
                clear hb6
                rw [show (mv K l).1 + (mv K l).2 = (T.size : Int) by rw [HWm.out]; exact HT.out.symm]
                go_wp2_with fail
                refine (cost_any _ len cap l _ HL.out hl hcap (by omega) ((hE.below hb6').more hb6'.size) HM.out).mono ?_
                rintro e' w7 ⟨rfl, hb7⟩
                have hb7' := below_tr hb6' hb7 hb6'.size
                clear hb7
                rw [← HXX.out]
                go_wp2_with fail
                refine (awake_any _).mono ?_
                rintro e' w8 ⟨rfl, hb8⟩
                have hb8' := below_tr hb7' hb8 hb7'.size
                clear hb8
                go_wp2
                go_ret
                exact ⟨rfl, hb8'⟩
    | succ k =>
      obtain ⟨e, he⟩ := get_some l k (by rw [HL.out]; omega)
      obtain ⟨q1, q2, q3, q4⟩ := right_at HR.out he
      have HS := Lib.hid (show costs (l.drop k) = e.cost + costs (l.drop (k + 1)) by rw [drop_cons_of he]; rfl)
      obtain ⟨m1, m2, m3, m4⟩ := HM.out e (List.mem_of_getElem? he)
      obtain ⟨ad, rfl, hab, c0, c1, c2⟩ := (hE.below hb) k e he
      rw [show (((k + 1 : Nat) : Int) - 1) = (k : Int) by omega]
      clear he q4
      have hki : (k : Int) < len := by omega
      have hkk0 : (0 : Int) ≤ k := by omega
      have hz := hb.size
      go_wp2_with fail
      go_quiet (fail)
      go_wp2
      go_roundw
      case rel => exact ⟨k, c + e.cost, by omega, rfl, by unfold Ed.cost; go_num, by show _ = _; rw [HS.out, ← HX.out]; omega, by unfold Ed.cost; omega, by unfold Ed.cost; omega, below_drewN hb _⟩
      case measure => simp [intOf]

theorem law_move (s : ByteArray) (A : Option Addr) (len cap : Nat) (l : List Ed) (x : Int) (w : World) (hlen : l.length = len) (hl : len ≤ cap) (hcap : cap ≤ 9223372036854775807) (hE : EdsAt w w.heap.size A l) (hx0 : 0 ≤ x) (hx1 : x ≤ 65535) :
    Calls Try.prog 7 #[.string s, .slice A len cap, .int .u16 x] w (Fine w) := by
  by_cases h3 : 300 < s.size
  · exact law_move_idle s A len cap l x w hlen hl hcap hE (.inl h3)
  · cases hg : greatB l with
    | true => exact law_move_idle s A len cap l x w hlen hl hcap hE (.inr (.inl hg))
    | false =>
      cases hR : rightB 0 s.size l with
      | true => exact law_move_yes s A len cap l x w hlen hl hcap hE hx0 hx1 (by omega) hg hR
      | false => exact law_move_idle s A len cap l x w hlen hl hcap hE (.inr (.inr hR))

end Go.Proofs.Ytpifobaejmfppaa
