/- The document's own reader: a letter. -/
import Derived.Test.YtejdfpieblkapaaM51
namespace Go.Proofs.Ytejdfpieblkapaa
open Go.RowKit Go.Shelf

/-- What the document's letter answers. -/
def LtTo (X : Nat) (s : ByteArray) (d : Int) (great : Bool) (r : Option (Nat × Nat)) (w : World) (e : Ending) (w' : World) : Prop :=
  Kb (fun j => j = X) w w' ∧ ((∃ c j, r = some (c, j) ∧ e = .returned (.int .i64 c) ∧ TxB w' X s j d false great) ∨ (r = none ∧ e = .returned (.int .i64 0) ∧ ∃ j, j ≤ s.size ∧ TxB w' X s j d true great))
theorem nx_get {s : ByteArray} {i : Nat} (h : i < s.size) : nx s.data.toList i = s[i].toNat := by
  unfold nx
  rw [List.getElem?_eq_getElem (by rw [← Lib.size_eq]; exact h)]
  simp
  rfl
theorem nx_end (s : ByteArray) : nx s.data.toList s.size = 0 := by
  unfold nx
  rw [List.getElem?_eq_none (by rw [← Lib.size_eq]; exact Nat.le_refl _)]
  rfl
theorem letF_end {sp : ByteArray} {L : List UInt8} {i : Nat} (h : nx L i = 0) : letF sp L i = none := by
  unfold letF; rw [h]; simp
theorem escF_end {sp : ByteArray} {L : List UInt8} {i : Nat} (h : nx L i = 0) (h0 : inS sp 0 = false) : escF sp L i = none := by
  unfold escF; rw [h, h0]; simp
/-- It can't go on there. -/
theorem lt_bad {X : Nat} {s : ByteArray} {i : Nat} {d : Int} {bad great : Bool} {w w1 : World} (h : TxB w1 X s i d bad great) (hk : Kb (fun j => j = X) w w1) (hi : i ≤ s.size) : LtTo X s d great none w (.returned (.int .i64 0)) (w1.setCell ⟨X, 3, none⟩ (.bool true)) :=
  ⟨hk.trans (Kb.setCell w1 ⟨X, 3, none⟩ _) (fun _ _ h => h), .inr ⟨rfl, rfl, i, hi, h.bad' true⟩⟩
/-- It goes on behind. -/
theorem lt_ok {X : Nat} {s : ByteArray} {i c : Nat} {d : Int} {great : Bool} {w w1 : World} (j : Nat) (h : TxB w1 X s i d false great) (hk : Kb (fun j => j = X) w w1) : LtTo X s d great (some (c, j)) w (.returned (.int .i64 c)) (w1.setCell ⟨X, 1, none⟩ (.int .i64 j)) :=
  ⟨hk.trans (Kb.setCell w1 ⟨X, 1, none⟩ _) (fun _ _ h => h), .inl ⟨c, j, rfl, rfl, h.at' j⟩⟩

set_option maxRecDepth 100000 in
set_option maxHeartbeats 4000000 in
theorem letter_plain (w : World) (X : Nat) (sp s : ByteArray) (i : Nat) (d : Int) (great : Bool) (h : TxB w X s i d false great) (hi : i ≤ s.size) (hs : s.size ≤ 1000000) (hsp : sp.size ≤ 1000) (h92 : nx s.data.toList i ≠ 92) :
    Calls Try.prog 63 #[ptr X, .string sp] w (LtTo X s d great (letF sp s.data.toList i) w) := by
  obtain ⟨c0, c1, _, c3, _, cf⟩ := tx_cells h
  have f1 := cf 1; have f3 := cf 3
  have HH := Lib.hid h
  clear cf h
  rcases Nat.lt_or_ge i s.size with hlt | hge
  · have hii : (i : Int) < s.size := by omega
    have hig : ¬ (s.size : Int) ≤ i := by omega
    have hi0 : (0 : Int) ≤ i := by omega
    have hn := nx_get hlt
    have hxl := s[i].toNat_lt
    have HK := Lib.hid (fun nq => Kb.of_below (fun j => j = X) (below_drewN w.heap.size w nq))
    obtain ⟨m, hm⟩ : ∃ m : Int, m = ((i + 1 : Nat) : Int) := ⟨_, rfl⟩
    have p1 : IntKind.i64.wrap ((i : Int) + 1) = m := by rw [hm, IntWalk.i64_in _ (by omega)]; omega
    have HM := Lib.hid hm
    rw [hn] at h92
    have h92i : ((s[i].toNat : Nat) : Int) ≠ 92 := by omega
    have hlet : letF sp s.data.toList i = if s[i].toNat ≤ 32 ∨ 126 < s[i].toNat ∨ inS sp s[i].toNat = true then none else some (s[i].toNat, i + 1) := by
      unfold letF; rw [hn, if_neg h92]
    rw [hlet]
    have HIN := Lib.hid (fun w' => in_any sp s[i].toNat w' (by omega) hsp)
    have pc : IntKind.i64.wrap ((s[i].toNat : Nat) : Int) = ((s[i].toNat : Nat) : Int) := IntWalk.i64_in _ (by omega)
    clear hn hlet hm
    by_cases h1 : s[i].toNat ≤ 32
    · have h1i : ((s[i].toNat : Nat) : Int) ≤ 32 := by omega
      rw [if_pos (.inl h1)]
      go_enter Try.func63, Try.ntmps63
      go_wp2_with fail
      go_quiet (fail)
      go_wp2_with fail
      go_quiet (fail)
      go_wp2
      go_ret
      exact lt_bad (i := i) (HH.out.below (below_drewN _ w _)) (Kb.of_below _ (below_drewN _ w _)) hi
    · have h1i : ¬ ((s[i].toNat : Nat) : Int) ≤ 32 := by omega
      by_cases h2 : 126 < s[i].toNat
      · have h2i : (127 : Int) ≤ ((s[i].toNat : Nat) : Int) := by omega
        rw [if_pos (.inr (.inl h2))]
        go_enter Try.func63, Try.ntmps63
        go_wp2_with fail
        go_quiet (fail)
        go_wp2_with fail
        go_quiet (fail)
        go_wp2
        go_ret
        exact lt_bad (i := i) (HH.out.below (below_drewN _ w _)) (Kb.of_below _ (below_drewN _ w _)) hi
      · have h2i : ¬ (127 : Int) ≤ ((s[i].toNat : Nat) : Int) := by omega
        cases hin : inS sp s[i].toNat with
        | true =>
          rw [hin] at HIN
          rw [if_pos (.inr (.inr rfl))]
          go_enter Try.func63, Try.ntmps63
          go_wp2_with fail
          go_quiet (fail)
          go_wp2_with fail
          go_quiet (fail)
          go_wp2_with fail
          refine (HIN.out _).mono ?_
          rintro e w2 ⟨rfl, rfl⟩
          go_wp2
          go_ret
          exact lt_bad (i := i) (HH.out.below (below_drewN _ w _)) (Kb.of_below _ (below_drewN _ w _)) hi
        | false =>
          rw [hin] at HIN
          rw [if_neg (fun h => by rcases h with h | h | h; exact h1 h; exact h2 h; cases h)]
          go_enter Try.func63, Try.ntmps63
          go_wp2_with fail
          go_quiet (fail)
          go_wp2_with fail
          go_quiet (fail)
          go_wp2_with fail
          refine (HIN.out _).mono ?_
          rintro e w2 ⟨rfl, rfl⟩
          go_wp2
          go_ret
          rw [HM.out]
          exact lt_ok (i + 1) (HH.out.below (below_drewN _ w _)) (Kb.of_below _ (below_drewN _ w _))
  · obtain rfl : i = s.size := by omega
    have hii : (s.size : Int) ≤ s.size := by omega
    rw [letF_end (nx_end s)]
    clear h92
    go_enter Try.func63, Try.ntmps63
    go_wp2_with fail
    go_quiet (fail)
    go_wp2
    go_ret
    exact lt_bad (i := s.size) (HH.out.below (below_drewN _ w _)) (Kb.of_below _ (below_drewN _ w _)) hi

set_option maxRecDepth 100000 in
set_option maxHeartbeats 4000000 in
theorem letter_esc (w : World) (X : Nat) (sp s : ByteArray) (i : Nat) (d : Int) (great : Bool) (h : TxB w X s i d false great) (hs : s.size ≤ 1000000) (hsp : sp.size ≤ 1000) (h0 : inS sp 0 = false) (h92 : nx s.data.toList i = 92) (h120 : nx s.data.toList (i + 1) ≠ 120) :
    Calls Try.prog 63 #[ptr X, .string sp] w (LtTo X s d great (letF sp s.data.toList i) w) := by
  have hlt := nx_in h92 (by omega)
  obtain ⟨c0, c1, _, c3, _, cf⟩ := tx_cells h
  have f1 := cf 1; have f3 := cf 3
  have hii : (i : Int) < s.size := by omega
  have hig : ¬ (s.size : Int) ≤ i := by omega
  have hi0 : (0 : Int) ≤ i := by omega
  have hn := nx_get hlt
  obtain ⟨j, hj⟩ : ∃ j, j = i + 1 := ⟨_, rfl⟩
  have p1 : IntKind.i64.wrap ((i : Int) + 1) = (j : Int) := by rw [hj, IntWalk.i64_in _ (by omega)]; omega
  have h92n : s[i].toNat = 92 := by rw [← hn]; exact h92
  have hlet : letF sp s.data.toList i = escF sp s.data.toList j := by unfold letF; rw [h92, if_pos rfl, hj]
  rw [hlet]
  rw [← hj] at h120
  have hjs : j ≤ s.size := by omega
  have HT0 := Lib.hid h; have HK0 := Lib.hid (Kb.refl (fun k => k = X) w)
  have hc92 : ((s[i].toNat : Nat) : Int) = 92 := by omega
  clear hn hlet h92 h cf hj
  go_enter Try.func63, Try.ntmps63
  go_wp2_with fail
  go_quiet (fail)
  have HT1 := Lib.hid (HT0.out.below (below_drewN _ w nq))
  have HK1 := Lib.hid (HK0.out.trans (Kb.of_below (fun k => k = X) (below_drewN _ w nq)) (fun _ _ h => h))
  generalize w.drewN nq = w1 at HT1 HK1 ⊢
  clear c0 c1 c3 f1 f3
  obtain ⟨c0, c1, _, c3, _, cf⟩ := tx_cells HT1.out
  have f1 := cf 1; have f3 := cf 3
  clear cf
  go_wp2_with fail
  go_quiet (fail)
  have HT2 := Lib.hid (HT1.out.below (below_drewN _ w1 nq))
  have HK2 := Lib.hid (HK1.out.trans (Kb.of_below (fun k => k = X) (below_drewN _ w1 nq)) (fun _ _ h => h))
  generalize w1.drewN nq = w2 at HT2 HK2 ⊢
  clear c0 c1 c3 f1 f3
  obtain ⟨c0, c1, _, c3, _, cf⟩ := tx_cells HT2.out
  have f1 := cf 1; have f3 := cf 3
  clear cf
  have HTj := Lib.hid (HT2.out.at' j)
  have HKj := Lib.hid (HK2.out.trans (Kb.setCell w2 ⟨X, 1, none⟩ (.int .i64 j)) (fun _ _ h => h))
  go_wp2_with fail
  generalize w2.setCell ⟨X, 1, none⟩ (.int .i64 j) = w3 at HTj HKj ⊢
  clear c0 c1 c3 f1 f3 hii hig hi0 p1 h92n hc92
  obtain ⟨c0, c1, _, c3, _, cf⟩ := tx_cells HTj.out
  have f1 := cf 1; have f3 := cf 3
  clear cf
  rcases Nat.lt_or_ge j s.size with hjl | hjg
  · have hji : (j : Int) < s.size := by omega
    have hjn : ¬ (s.size : Int) ≤ j := by omega
    have hj0 : (0 : Int) ≤ j := by omega
    have hn := nx_get hjl
    have hxl := s[j].toNat_lt
    obtain ⟨m, hm⟩ : ∃ m, m = j + 1 := ⟨_, rfl⟩
    have p1 : IntKind.i64.wrap ((j : Int) + 1) = (m : Int) := by rw [hm, IntWalk.i64_in _ (by omega)]; omega
    have pc : IntKind.i64.wrap ((s[j].toNat : Nat) : Int) = ((s[j].toNat : Nat) : Int) := IntWalk.i64_in _ (by omega)
    have HM := Lib.hid hm
    rw [hn] at h120
    have h120i : ((s[j].toNat : Nat) : Int) ≠ 120 := by omega
    have hesc : escF sp s.data.toList j = if s[j].toNat = 110 then some (10, m) else if s[j].toNat = 116 then some (9, m) else if s[j].toNat = 115 then some (32, m) else if inS sp s[j].toNat = true then some (s[j].toNat, m) else none := by
      unfold escF; rw [hn, if_neg h120, hm]
    have HES := Lib.hid hesc
    have HIN := Lib.hid (fun w' => in_any sp s[j].toNat w' (by omega) hsp)
    clear hn hesc hm
    go_wp2_with fail
    go_quiet (fail)
    have HT4 := Lib.hid (HTj.out.below (below_drewN _ w3 nq))
    have HK4 := Lib.hid (HKj.out.trans (Kb.of_below (fun k => k = X) (below_drewN _ w3 nq)) (fun _ _ h => h))
    generalize w3.drewN nq = w4 at HT4 HK4 ⊢
    clear c0 c1 c3 f1 f3
    obtain ⟨c0, c1, _, c3, _, cf⟩ := tx_cells HT4.out
    have f1 := cf 1; have f3 := cf 3
    clear cf
    go_wp2_with fail
    go_quiet (fail)
    have HT5 := Lib.hid (HT4.out.below (below_drewN _ w4 nq))
    have HK5 := Lib.hid (HK4.out.trans (Kb.of_below (fun k => k = X) (below_drewN _ w4 nq)) (fun _ _ h => h))
    generalize w4.drewN nq = w5 at HT5 HK5 ⊢
    clear c0 c1 c3 f1 f3
    obtain ⟨c0, c1, _, c3, _, cf⟩ := tx_cells HT5.out
    have f1 := cf 1; have f3 := cf 3
    clear cf
    have hgo : ∀ c : Nat, LtTo X s d great (some (c, m)) w (.returned (.int .i64 c)) (w5.setCell ⟨X, 1, none⟩ (.int .i64 m)) := fun c => lt_ok m HT5.out HK5.out
    have HGO := Lib.hid hgo
    clear hgo
    by_cases q1 : s[j].toNat = 110
    · have q1i : ((s[j].toNat : Nat) : Int) = 110 := by omega
      have HE := Lib.hid (HES.out.trans (if_pos q1))
      go_wp2
      go_ret
      rw [HE.out]
      exact HGO.out 10
    · have q1i : ((s[j].toNat : Nat) : Int) ≠ 110 := by omega
      by_cases q2 : s[j].toNat = 116
      · have q2i : ((s[j].toNat : Nat) : Int) = 116 := by omega
        have HE := Lib.hid (HES.out.trans ((if_neg q1).trans (if_pos q2)))
        go_wp2
        go_ret
        rw [HE.out]
        exact HGO.out 9
      · have q2i : ((s[j].toNat : Nat) : Int) ≠ 116 := by omega
        by_cases q3 : s[j].toNat = 115
        · have q3i : ((s[j].toNat : Nat) : Int) = 115 := by omega
          have HE := Lib.hid (HES.out.trans ((if_neg q1).trans ((if_neg q2).trans (if_pos q3))))
          go_wp2
          go_ret
          rw [HE.out]
          exact HGO.out 32
        · have q3i : ((s[j].toNat : Nat) : Int) ≠ 115 := by omega
          cases hin : inS sp s[j].toNat with
          | true =>
            rw [hin] at HIN
            have HE := Lib.hid (HES.out.trans ((if_neg q1).trans ((if_neg q2).trans ((if_neg q3).trans (if_pos hin)))))
            go_wp2_with fail
            refine (HIN.out _).mono ?_
            rintro e w6 ⟨rfl, rfl⟩
            go_wp2
            go_ret
            rw [HE.out]
            exact HGO.out _
          | false =>
            rw [hin] at HIN
            have HE := Lib.hid (HES.out.trans ((if_neg q1).trans ((if_neg q2).trans ((if_neg q3).trans (if_neg (by rw [hin]; simp))))))
            go_wp2_with fail
            refine (HIN.out _).mono ?_
            rintro e w6 ⟨rfl, rfl⟩
            go_wp2
            go_ret
            rw [HE.out]
            exact lt_bad HT5.out HK5.out hjs
  · obtain rfl : j = s.size := by omega
    have hji : (s.size : Int) ≤ s.size := by omega
    have HE := Lib.hid (escF_end (sp := sp) (nx_end s) h0)
    go_wp2_with fail
    go_quiet (fail)
    have HT4 := Lib.hid (HTj.out.below (below_drewN _ w3 nq))
    have HK4 := Lib.hid (HKj.out.trans (Kb.of_below (fun k => k = X) (below_drewN _ w3 nq)) (fun _ _ h => h))
    generalize w3.drewN nq = w4 at HT4 HK4 ⊢
    clear c0 c1 c3 f1 f3
    obtain ⟨c0, c1, _, c3, _, cf⟩ := tx_cells HT4.out
    have f1 := cf 1; have f3 := cf 3
    clear cf
    go_wp2
    go_ret
    rw [HE.out]
    exact lt_bad HT4.out HK4.out (Nat.le_refl _)
end Go.Proofs.Ytejdfpieblkapaa
