/- The parser's calls: size, weigh. -/
import Derived.Test.YtejdfpieblkapaaM38
namespace Go.Proofs.Ytejdfpieblkapaa
open Go.RowKit Go.Shelf

theorem szs_take {l : List Rx} {k : Nat} {r : Rx} (h : l[k]? = some r) : szs (l.take (k + 1)) = szs (l.take k) + r.size := by
  rw [List.take_add_one, h, szs_append]; simp [szs]
theorem szs_take_le (l : List Rx) (k : Nat) : szs (l.take k) ≤ szs l := by
  have := List.take_append_drop k l
  have h2 : szs (l.take k ++ l.drop k) = szs l := by rw [this]
  rw [szs_append] at h2; omega
theorem gsz_take {l : List Grp} {k : Nat} {r : Grp} (h : l[k]? = some r) : gsz (l.take (k + 1)) = gsz (l.take k) + r.size := by
  rw [List.take_add_one, h, gsz_append]; simp [gsz]
theorem gsz_take_le (l : List Grp) (k : Nat) : gsz (l.take k) ≤ gsz l := by
  have := List.take_append_drop k l
  have h2 : gsz (l.take k ++ l.drop k) = gsz l := by rw [this]
  rw [gsz_append] at h2; omega

set_option maxRecDepth 100000 in
set_option maxHeartbeats 2000000 in
theorem size_any (w : World) (G c c1 : Nat) (A B : Option Addr) (m n ca cb : Nat) (asl bsl : List Nat) (ways row : List Rx) (hc1 : c1 = c + 1) (q1 : w.cell? ⟨G, c, none⟩ = some (.slice A m ca)) (q2 : w.cell? ⟨G, c1, none⟩ = some (.slice B n cb)) (hm : m = ways.length) (hn : n = row.length) (ra : RowAt w A asl) (na : NdsAt w ways asl) (rb : RowAt w B bsl) (nb : NdsAt w row bsl) (hca : m ≤ ca) (hcb : n ≤ cb) (hz : szs ways + szs row ≤ 1000000) :
    Calls Try.prog 61 #[.pointer (some ⟨G, c, none⟩)] w fun e w' => e = .returned (.int .i64 ((szs ways + szs row : Nat) : Int)) ∧ w' = w := by
  have hmb : m ≤ 1000000 := by have := szs_len ways; omega
  have hnb : n ≤ 1000000 := by have := szs_len row; omega
  have HC1 := Lib.hid hc1; have HM := Lib.hid hm; have HN := Lib.hid hn; have HRA := Lib.hid ra; have HNA := Lib.hid na; have HRB := Lib.hid rb; have HNB := Lib.hid nb; have HZ := Lib.hid hz
  subst hc1
  clear hm hn ra na rb nb hz
  go_enter Try.func61, Try.ntmps61
  go_wp2_with fail
  go_loopw [3, 13] (fun t a wr => ∃ k S : Nat, k ≤ m ∧ a = .int .i64 k ∧ t = .int .i64 S ∧ S ≤ 1000000 ∧ Hid (S = szs (ways.take k)) ∧ wr = w) (fun _ a _ => m - (intOf a).toNat)
  case atStart => exact ⟨0, 0, Nat.zero_le _, rfl, rfl, by omega, rfl, rfl⟩
  case round =>
    obtain ⟨k, S, hk, rfl, rfl, hS, HS, rfl⟩ := hrel
    by_cases hlt : k < m
    · obtain ⟨r, hr⟩ : ∃ r, ways[k]? = some r := ⟨_, List.getElem?_eq_getElem (by rw [← HM.out]; exact hlt)⟩
      obtain ⟨b, hb⟩ : ∃ b, asl[k]? = some b := ⟨_, List.getElem?_eq_getElem (by rw [← HNA.out.1, ← HM.out]; exact hlt)⟩
      obtain ⟨g, hA, hcell, hgl⟩ := HRA.out.get hb
      subst hA
      obtain ⟨hsz, _, hbl⟩ := nd_size (HNA.out.2 k r b hr hb)
      have e1 := szs_take hr
      have e2 := szs_take_le ways (k + 1)
      have hrz : r.size + S ≤ 1000000 := by have := HZ.out; have := HS.out; omega
      obtain ⟨rz, hrz'⟩ : ∃ rz, rz = r.size := ⟨_, rfl⟩
      rw [← hrz'] at hsz hrz
      have HE := Lib.hid (show S + rz = szs (ways.take (k + 1)) by rw [e1, ← hrz', ← HS.out])
      have hki : (k : Int) < m := by omega
      have hk0 : (0 : Int) ≤ k := by omega
      clear hr hb e1 e2 hrz'
      go_wp2
      go_roundw
      case rel => exact ⟨k + 1, S + rz, by omega, by go_num, by go_num, by omega, HE.out, by first | rfl | trivial⟩
      case measure => simp [intOf]; omega
    · obtain rfl : k = m := by omega
      have hS1 : S = szs ways := by rw [HS.out, HM.out, List.take_length]
      have HS1 := Lib.hid hS1
      clear hS1 HS
      go_wp2_with fail
      go_loopw [3, 29] (fun t a wr2 => ∃ j T : Nat, j ≤ n ∧ a = .int .i64 j ∧ t = .int .i64 T ∧ T ≤ 1000000 ∧ Hid (T = szs ways + szs (row.take j)) ∧ wr2 = wr) (fun _ a _ => n - (intOf a).toNat)
      case atStart => exact ⟨0, S, Nat.zero_le _, rfl, rfl, hS, by rw [HS1.out]; rfl, rfl⟩
      case round =>
        obtain ⟨j, T, hj, rfl, rfl, hT, HT, rfl⟩ := hrel
        by_cases hlt : j < n
        · obtain ⟨r, hr⟩ : ∃ r, row[j]? = some r := ⟨_, List.getElem?_eq_getElem (by rw [← HN.out]; exact hlt)⟩
          obtain ⟨b, hb⟩ : ∃ b, bsl[j]? = some b := ⟨_, List.getElem?_eq_getElem (by rw [← HNB.out.1, ← HN.out]; exact hlt)⟩
          obtain ⟨g, hA, hcell, hgl⟩ := HRB.out.get hb
          subst hA
          obtain ⟨hsz, _, hbl⟩ := nd_size (HNB.out.2 j r b hr hb)
          have e1 := szs_take hr
          have e2 := szs_take_le row (j + 1)
          have hrz : r.size + T ≤ 1000000 := by have := HZ.out; have := HT.out; omega
          obtain ⟨rz, hrz'⟩ : ∃ rz, rz = r.size := ⟨_, rfl⟩
          rw [← hrz'] at hsz hrz
          have HE := Lib.hid (show T + rz = szs ways + szs (row.take (j + 1)) by rw [e1, ← hrz', HT.out]; omega)
          have hki : (j : Int) < n := by omega
          have hk0 : (0 : Int) ≤ j := by omega
          clear hr hb e1 e2 hrz'
          go_wp2
          go_roundw
          case rel => exact ⟨j + 1, T + rz, by omega, by go_num, by go_num, by omega, HE.out, by first | rfl | trivial⟩
          case measure => simp [intOf]; omega
        · obtain rfl : j = n := by omega
          have hT1 : T = szs ways + szs row := by rw [HT.out, HN.out, List.take_length]
          have HT1 := Lib.hid hT1
          clear hT1 HT
          go_wp2
          go_ret
          exact ⟨by rw [HT1.out]; rfl, rfl⟩

theorem flatG_at {gs : List Grp} {k : Nat} {g : Grp} (h : gs[k]? = some g) : (flatG gs)[k * 2]? = some g.ways ∧ (flatG gs)[k * 2 + 1]? = some g.row := by
  have hk : k < gs.length := (List.getElem?_eq_some_iff.1 h).1
  have e : gs = gs.take k ++ (g :: gs.drop (k + 1)) := by
    have h1 : gs.drop k = g :: gs.drop (k + 1) := by
      rw [List.drop_eq_getElem_cons hk]; congr 1
      exact (List.getElem?_eq_some_iff.1 h).2
    rw [← h1, List.take_append_drop]
  have hl : (gs.take k).length = k := by rw [List.length_take]; omega
  have e2 : flatG gs = flatG (gs.take k) ++ (g.ways :: g.row :: flatG (gs.drop (k + 1))) := by
    conv => lhs; rw [e]
    rw [flatG_append]; rfl
  have hl2 := flatG_len (gs.take k)
  rw [hl] at hl2
  rw [e2]
  exact ⟨by rw [List.getElem?_append_right (by omega), hl2, Nat.sub_self]; rfl, by rw [List.getElem?_append_right (by omega), hl2, Nat.add_sub_cancel_left]; rfl⟩
theorem PIx.grp {w0 w : World} {ρ : Nat → Nat} {P G cap : Nat} {s : ByteArray} {i : Nat} {d : Int} {gs : List Grp} {vs : List Value} (H : PIx 0 w0 w ρ P G cap s i d gs.length vs (flatG gs)) {k : Nat} {g : Grp} (h : gs[k]? = some g) :
    ∃ A ca asl B cb bsl, w.cell? ⟨G, k * 2, none⟩ = some (.slice A g.ways.length ca) ∧ w.cell? ⟨G, k * 2 + 1, none⟩ = some (.slice B g.row.length cb) ∧ RowAt w A asl ∧ NdsAt w g.ways asl ∧ RowAt w B bsl ∧ NdsAt w g.row bsl ∧ g.ways.length ≤ ca ∧ g.row.length ≤ cb := by
  have hk : k < gs.length := (List.getElem?_eq_some_iff.1 h).1
  have hl := H.lenv
  obtain ⟨a, ha⟩ : ∃ a, vs[k * 2]? = some a := ⟨_, List.getElem?_eq_getElem (by omega)⟩
  obtain ⟨b, hb⟩ : ∃ b, vs[k * 2 + 1]? = some b := ⟨_, List.getElem?_eq_getElem (by omega)⟩
  obtain ⟨f1, f2⟩ := flatG_at h
  obtain ⟨asl, a1, a2, _⟩ := H.rows _ _ _ ha f1 (by omega)
  obtain ⟨bsl, b1, b2, _⟩ := H.rows _ _ _ hb f2 (by omega)
  obtain ⟨A, ca, rfl, hca, _⟩ := own_form a1
  obtain ⟨B, cb, rfl, hcb, _⟩ := own_form b1
  exact ⟨A, ca, asl, B, cb, bsl, H.cell ha, H.cell hb, own_row a1, a2.nds, own_row b1, b2.nds, hca, hcb⟩

theorem long_ps {w : World} {P : Nat} {s : ByteArray} {i : Nat} {ov : Value} {d : Int} {l : Bool} (h : PsB w P s i ov d l) : PsB ((w.setCell ⟨P, 4, none⟩ (.bool true)).setCell ⟨P, 2, none⟩ (.slice none 0 0)) P s i (.slice none 0 0) d true ∧ Kb (fun j => j = P) w ((w.setCell ⟨P, 4, none⟩ (.bool true)).setCell ⟨P, 2, none⟩ (.slice none 0 0)) := by
  refine ⟨?_, (Kb.setCell w ⟨P, 4, none⟩ _).trans (Kb.setCell _ ⟨P, 2, none⟩ _) (fun _ _ h => h)⟩
  unfold PsB at h ⊢
  have h1 := set_heap w P 4 _ (.bool true) _ _ h
  rw [set_heap _ P 2 _ _ _ _ h1]; rfl

/-- What weigh leaves. -/
def WgTo (P : Nat) (s : ByteArray) (i d Z : Nat) (w : World) (e : Ending) (w' : World) : Prop := e = .returned (.tuple #[]) ∧ ((400 < Z ∨ 50 < d) → PsB w' P s i (.slice none 0 0) d true ∧ Kb (fun j => j = P) w w') ∧ (¬ (400 < Z ∨ 50 < d) → w' = w)
set_option maxRecDepth 100000 in
set_option maxHeartbeats 2000000 in
theorem weigh_some (w0 w : World) (P G cap : Nat) (s : ByteArray) (i : Nat) (d : Nat) (gs : List Grp) (H : PI w0 w P G cap s i d gs) (hz : gsz gs ≤ 100000) (hlen : gs.length ≤ 110) (hd : d ≤ 1000000) :
    Calls Try.prog 45 #[ptr P] w (WgTo P s i d (gsz gs) w) := by
  obtain ⟨ρ, vs, X, _⟩ := H
  have HX := Lib.hid X
  obtain ⟨_, _, c2, c3, c4, cf⟩ := ps_cells X.ps
  have f2 := cf 2; have f4 := cf 4
  have HPS := Lib.hid (long_ps X.ps)
  have hcap : gs.length ≤ cap := by obtain ⟨_, _, _, h, _⟩ := X.blk; exact h
  obtain ⟨n, hn⟩ : ∃ n, n = gs.length := ⟨_, rfl⟩
  rw [← hn] at c2 hcap hlen
  have HN := Lib.hid hn
  obtain ⟨Z, hZ⟩ : ∃ Z, Z = gsz gs := ⟨_, rfl⟩
  rw [← hZ] at hz ⊢
  have HZ := Lib.hid hZ
  clear X cf hn hZ
  go_enter Try.func45, Try.ntmps45
  go_wp2_with fail
  go_loopw [2, 9] (fun t a wr => ∃ k S : Nat, k ≤ n ∧ a = .int .i64 k ∧ t = .int .i64 S ∧ S ≤ 100000 ∧ Hid (S = gsz (gs.take k)) ∧ wr = w) (fun _ a _ => n - (intOf a).toNat)
  case atStart => exact ⟨0, 0, Nat.zero_le _, rfl, rfl, by omega, rfl, rfl⟩
  case round =>
    obtain ⟨k, S, hk, rfl, rfl, hS, HS, rfl⟩ := hrel
    by_cases hlt : k < n
    · obtain ⟨g, hg⟩ : ∃ g, gs[k]? = some g := ⟨_, List.getElem?_eq_getElem (by rw [← HN.out]; exact hlt)⟩
      obtain ⟨A, ca, asl, B, cb, bsl, a1, a2, a3, a4, a5, a6, a7, a8⟩ := HX.out.grp hg
      have e1 := gsz_take hg
      have e2 := gsz_take_le gs (k + 1)
      have e3 : g.size = szs g.ways + szs g.row := rfl
      have hgz : S + g.size ≤ 100000 := by have := HZ.out; have := HS.out; omega
      have HSZ := Lib.hid (size_any wr G (k * 2) (k * 2 + 1) A B _ _ ca cb asl bsl g.ways g.row rfl a1 a2 rfl rfl a3 a4 a5 a6 a7 a8 (by omega))
      rw [← e3] at HSZ
      obtain ⟨gz, hgz'⟩ : ∃ gz, gz = g.size := ⟨_, rfl⟩
      rw [← hgz'] at HSZ hgz
      have HE := Lib.hid (show S + gz = gsz (gs.take (k + 1)) by rw [e1, ← hgz', ← HS.out])
      have hki : (k : Int) < n := by omega
      have hk0 : (0 : Int) ≤ k := by omega
      clear hg a1 a2 a3 a4 a5 a6 a7 a8 e1 e2 e3 hgz'
      go_wp2_with fail
      refine HSZ.out.mono ?_
      rintro e w2 ⟨rfl, rfl⟩
      go_wp2
      go_roundw
      case rel => exact ⟨k + 1, S + gz, by omega, by go_num, by go_num, by omega, HE.out, by first | rfl | trivial⟩
      case measure => simp [intOf]; omega
    · obtain rfl : k = n := by omega
      have hS1 : S = Z := by rw [HS.out, HN.out, List.take_length, HZ.out]
      subst hS1
      clear HS
      by_cases h1 : 400 < S
      · have h1i : (400 : Int) < (S : Int) := by omega
        go_wp2
        go_end0
        exact ⟨rfl, fun _ => HPS.out, fun h => absurd (.inl h1) h⟩
      · have h1i : ¬ (400 : Int) < (S : Int) := by omega
        by_cases h2 : 50 < d
        · have h2i : (50 : Int) < (d : Int) := by omega
          go_wp2
          go_end0
          exact ⟨rfl, fun _ => HPS.out, fun h => absurd (.inr h2) h⟩
        · have h2i : ¬ (50 : Int) < (d : Int) := by omega
          go_wp2
          go_end0
          exact ⟨rfl, fun h => by omega, fun _ => rfl⟩
set_option maxRecDepth 100000 in
set_option maxHeartbeats 2000000 in
theorem weigh_none (w : World) (P : Nat) (s : ByteArray) (i : Nat) (d : Nat) (H : PsB w P s i (.slice none 0 0) d true) (hd : d ≤ 1000000) :
    Calls Try.prog 45 #[ptr P] w fun e w' => e = .returned (.tuple #[]) ∧ PsB w' P s i (.slice none 0 0) d true ∧ Kb (fun j => j = P) w w' := by
  obtain ⟨_, _, c2, c3, c4, cf⟩ := ps_cells H
  have f2 := cf 2; have f4 := cf 4
  have HPS := Lib.hid (long_ps H)
  have HH := Lib.hid H
  clear H cf
  go_enter Try.func45, Try.ntmps45
  go_wp2_with fail
  go_loopw [2, 9] (fun t a wr => a = .int .i64 0 ∧ t = .int .i64 0 ∧ wr = w) (fun _ _ _ => 0)
  case atStart => exact ⟨rfl, rfl, rfl⟩
  case round =>
    obtain ⟨rfl, rfl, rfl⟩ := hrel
    by_cases h2 : 50 < d
    · have h2i : (50 : Int) < (d : Int) := by omega
      go_wp2
      go_end0
      exact ⟨rfl, HPS.out⟩
    · have h2i : ¬ (50 : Int) < (d : Int) := by omega
      go_wp2
      go_end0
      exact ⟨rfl, HH.out, Kb.refl _ _⟩
end Go.Proofs.Ytejdfpieblkapaa
