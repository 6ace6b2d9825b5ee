/- The parser's calls: size, weigh. -/
import Derived.Test.YtejdfpieblkapaaM36
namespace Go.Proofs.Ytejdfpieblkapaa
open Go.RowKit Go.Shelf

theorem szs_take {l : List Rx} {k : Nat} {r : Rx} (h : l[k]? = some r) : szs (l.take (k + 1)) = szs (l.take k) + r.size := by
  rw [List.take_add_one, h, szs_append]; simp [szs]
theorem szs_take_le (l : List Rx) (k : Nat) : szs (l.take k) ≤ szs l := by
  have := List.take_append_drop k l
  have h2 : szs (l.take k ++ l.drop k) = szs l := by rw [this]
  rw [szs_append] at h2; omega
theorem gsz_take {l : List Grp} {k : Nat} {r : Grp} (h : l[k]? = some r) : gsz (l.take (k + 1)) = gsz (l.take k) + r.size := by
  rw [List.take_add_one, h, gsz_append]; simp [gsz]
theorem gsz_take_le (l : List Grp) (k : Nat) : gsz (l.take k) ≤ gsz l := by
  have := List.take_append_drop k l
  have h2 : gsz (l.take k ++ l.drop k) = gsz l := by rw [this]
  rw [gsz_append] at h2; omega

set_option maxRecDepth 100000 in
set_option maxHeartbeats 2000000 in
theorem size_any (w : World) (G c c1 : Nat) (A B : Option Addr) (m n ca cb : Nat) (asl bsl : List Nat) (ways row : List Rx) (hc1 : c1 = c + 1) (q1 : w.cell? ⟨G, c, none⟩ = some (.slice A m ca)) (q2 : w.cell? ⟨G, c1, none⟩ = some (.slice B n cb)) (hm : m = ways.length) (hn : n = row.length) (ra : RowAt w A asl) (na : NdsAt w ways asl) (rb : RowAt w B bsl) (nb : NdsAt w row bsl) (hca : m ≤ ca) (hcb : n ≤ cb) (hz : szs ways + szs row ≤ 1000000) :
    Calls Try.prog 61 #[.pointer (some ⟨G, c, none⟩)] w fun e w' => e = .returned (.int .i64 ((szs ways + szs row : Nat) : Int)) ∧ w' = w := by
  have hmb : m ≤ 1000000 := by have := szs_len ways; omega
  have hnb : n ≤ 1000000 := by have := szs_len row; omega
  have HC1 := Lib.hid hc1; have HM := Lib.hid hm; have HN := Lib.hid hn; have HRA := Lib.hid ra; have HNA := Lib.hid na; have HRB := Lib.hid rb; have HNB := Lib.hid nb; have HZ := Lib.hid hz
  subst hc1
  clear hm hn ra na rb nb hz
  go_enter Try.func61, Try.ntmps61
  go_wp2_with fail
  go_loopw [3, 13] (fun t a wr => ∃ k S : Nat, k ≤ m ∧ a = .int .i64 k ∧ t = .int .i64 S ∧ S ≤ 1000000 ∧ Hid (S = szs (ways.take k)) ∧ wr = w) (fun _ a _ => m - (intOf a).toNat)
  case atStart => exact ⟨0, 0, Nat.zero_le _, rfl, rfl, by omega, rfl, rfl⟩
  case round =>
    obtain ⟨k, S, hk, rfl, rfl, hS, HS, rfl⟩ := hrel
    by_cases hlt : k < m
    · obtain ⟨r, hr⟩ : ∃ r, ways[k]? = some r := ⟨_, List.getElem?_eq_getElem (by rw [← HM.out]; exact hlt)⟩
      obtain ⟨b, hb⟩ : ∃ b, asl[k]? = some b := ⟨_, List.getElem?_eq_getElem (by rw [← HNA.out.1, ← HM.out]; exact hlt)⟩
      obtain ⟨g, hA, hcell, hgl⟩ := HRA.out.get hb
      subst hA
      obtain ⟨hsz, _, hbl⟩ := nd_size (HNA.out.2 k r b hr hb)
      have e1 := szs_take hr
      have e2 := szs_take_le ways (k + 1)
      have hrz : r.size + S ≤ 1000000 := by have := HZ.out; have := HS.out; omega
      obtain ⟨rz, hrz'⟩ : ∃ rz, rz = r.size := ⟨_, rfl⟩
      rw [← hrz'] at hsz hrz
      have HE := Lib.hid (show S + rz = szs (ways.take (k + 1)) by rw [e1, ← hrz', ← HS.out])
      have hki : (k : Int) < m := by omega
      have hk0 : (0 : Int) ≤ k := by omega
      clear hr hb e1 e2 hrz'
      go_wp2
      go_roundw
      case rel => exact ⟨k + 1, S + rz, by omega, by go_num, by go_num, by omega, HE.out, by first | rfl | trivial⟩
      case measure => simp [intOf]; omega
    · obtain rfl : k = m := by omega
      have hS1 : S = szs ways := by rw [HS.out, HM.out, List.take_length]
      have HS1 := Lib.hid hS1
      clear hS1 HS
      go_wp2_with fail
      go_loopw [3, 29] (fun t a wr2 => ∃ j T : Nat, j ≤ n ∧ a = .int .i64 j ∧ t = .int .i64 T ∧ T ≤ 1000000 ∧ Hid (T = szs ways + szs (row.take j)) ∧ wr2 = wr) (fun _ a _ => n - (intOf a).toNat)
      case atStart => exact ⟨0, S, Nat.zero_le _, rfl, rfl, hS, by rw [HS1.out]; rfl, rfl⟩
      case round =>
        obtain ⟨j, T, hj, rfl, rfl, hT, HT, rfl⟩ := hrel
        by_cases hlt : j < n
        · obtain ⟨r, hr⟩ : ∃ r, row[j]? = some r := ⟨_, List.getElem?_eq_getElem (by rw [← HN.out]; exact hlt)⟩
          obtain ⟨b, hb⟩ : ∃ b, bsl[j]? = some b := ⟨_, List.getElem?_eq_getElem (by rw [← HNB.out.1, ← HN.out]; exact hlt)⟩
          obtain ⟨g, hA, hcell, hgl⟩ := HRB.out.get hb
          subst hA
          obtain ⟨hsz, _, hbl⟩ := nd_size (HNB.out.2 j r b hr hb)
          have e1 := szs_take hr
          have e2 := szs_take_le row (j + 1)
          have hrz : r.size + T ≤ 1000000 := by have := HZ.out; have := HT.out; omega
          obtain ⟨rz, hrz'⟩ : ∃ rz, rz = r.size := ⟨_, rfl⟩
          rw [← hrz'] at hsz hrz
          have HE := Lib.hid (show T + rz = szs ways + szs (row.take (j + 1)) by rw [e1, ← hrz', HT.out]; omega)
          have hki : (j : Int) < n := by omega
          have hk0 : (0 : Int) ≤ j := by omega
          clear hr hb e1 e2 hrz'
          go_wp2
          go_roundw
          case rel => exact ⟨j + 1, T + rz, by omega, by go_num, by go_num, by omega, HE.out, by first | rfl | trivial⟩
          case measure => simp [intOf]; omega
        · obtain rfl : j = n := by omega
          have hT1 : T = szs ways + szs row := by rw [HT.out, HN.out, List.take_length]
          have HT1 := Lib.hid hT1
          clear hT1 HT
          go_wp2
          go_ret
          exact ⟨by rw [HT1.out]; rfl, rfl⟩

theorem flatG_at {gs : List Grp} {k : Nat} {g : Grp} (h : gs[k]? = some g) : (flatG gs)[k * 2]? = some g.ways ∧ (flatG gs)[k * 2 + 1]? = some g.row := by
  have hk : k < gs.length := (List.getElem?_eq_some_iff.1 h).1
  have e : gs = gs.take k ++ (g :: gs.drop (k + 1)) := by
    have h1 : gs.drop k = g :: gs.drop (k + 1) := by
      rw [List.drop_eq_getElem_cons hk]; congr 1
      exact (List.getElem?_eq_some_iff.1 h).2
    rw [← h1, List.take_append_drop]
  have hl : (gs.take k).length = k := by rw [List.length_take]; omega
  have e2 : flatG gs = flatG (gs.take k) ++ (g.ways :: g.row :: flatG (gs.drop (k + 1))) := by
    conv => lhs; rw [e]
    rw [flatG_append]; rfl
  have hl2 := flatG_len (gs.take k)
  rw [hl] at hl2
  rw [e2]
  exact ⟨by rw [List.getElem?_append_right (by omega), hl2, Nat.sub_self]; rfl, by rw [List.getElem?_append_right (by omega), hl2, Nat.add_sub_cancel_left]; rfl⟩
theorem PIx.grp {w0 w : World} {ρ : Nat → Nat} {P G cap : Nat} {s : ByteArray} {i : Nat} {d : Int} {gs : List Grp} {vs : List Value} (H : PIx 0 w0 w ρ P G cap s i d gs.length vs (flatG gs)) {k : Nat} {g : Grp} (h : gs[k]? = some g) :
    ∃ A ca asl B cb bsl, w.cell? ⟨G, k * 2, none⟩ = some (.slice A g.ways.length ca) ∧ w.cell? ⟨G, k * 2 + 1, none⟩ = some (.slice B g.row.length cb) ∧ RowAt w A asl ∧ NdsAt w g.ways asl ∧ RowAt w B bsl ∧ NdsAt w g.row bsl ∧ g.ways.length ≤ ca ∧ g.row.length ≤ cb := by
  have hk : k < gs.length := (List.getElem?_eq_some_iff.1 h).1
  have hl := H.lenv
  obtain ⟨a, ha⟩ : ∃ a, vs[k * 2]? = some a := ⟨_, List.getElem?_eq_getElem (by omega)⟩
  obtain ⟨b, hb⟩ : ∃ b, vs[k * 2 + 1]? = some b := ⟨_, List.getElem?_eq_getElem (by omega)⟩
  obtain ⟨f1, f2⟩ := flatG_at h
  obtain ⟨asl, a1, a2, _⟩ := H.rows _ _ _ ha f1 (by omega)
  obtain ⟨bsl, b1, b2, _⟩ := H.rows _ _ _ hb f2 (by omega)
  obtain ⟨A, ca, rfl, hca, _⟩ := own_form a1
  obtain ⟨B, cb, rfl, hcb, _⟩ := own_form b1
  exact ⟨A, ca, asl, B, cb, bsl, H.cell ha, H.cell hb, own_row a1, a2.nds, own_row b1, b2.nds, hca, hcb⟩

theorem long_ps {w : World} {P : Nat} {s : ByteArray} {i : Nat} {ov : Value} {d : Int} {l : Bool} (h : PsB w P s i ov d l) : PsB ((w.setCell ⟨P, 4, none⟩ (.bool true)).setCell ⟨P, 2, none⟩ (.slice none 0 0)) P s i (.slice none 0 0) d true ∧ Kb (fun j => j = P) w ((w.setCell ⟨P, 4, none⟩ (.bool true)).setCell ⟨P, 2, none⟩ (.slice none 0 0)) := by
  refine ⟨?_, (Kb.setCell w ⟨P, 4, none⟩ _).trans (Kb.setCell _ ⟨P, 2, none⟩ _) (fun _ _ h => h)⟩
  unfold PsB at h ⊢
  have h1 := set_heap w P 4 _ (.bool true) _ _ h
  rw [set_heap _ P 2 _ _ _ _ h1]; rfl

/-- What weigh leaves. -/
def WgTo (P : Nat) (s : ByteArray) (i d Z : Nat) (w : World) (e : Ending) (w' : World) : Prop := e = .returned (.tuple #[]) ∧ ((400 < Z ∨ 50 < d) → PsB w' P s i (.slice none 0 0) d true ∧ Kb (fun j => j = P) w w') ∧ (¬ (400 < Z ∨ 50 < d) → w' = w)
set_option maxRecDepth 100000 in
set_option maxHeartbeats 2000000 in
theorem weigh_some (w0 w : World) (P G cap : Nat) (s : ByteArray) (i : Nat) (d : Nat) (gs : List Grp) (H : PI w0 w P G cap s i d gs) (hz : gsz gs ≤ 100000) (hlen : gs.length ≤ 110) (hd : d ≤ 1000000) :
    Calls Try.prog 45 #[ptr P] w (WgTo P s i d (gsz gs) w) := by
  obtain ⟨ρ, vs, X, _⟩ := H
  have HX := Lib.hid X
  obtain ⟨_, _, c2, c3, c4, cf⟩ := ps_cells X.ps
  have f2 := cf 2; have f4 := cf 4
  have HPS := Lib.hid (long_ps X.ps)
  have hcap : gs.length ≤ cap := by obtain ⟨_, _, _, h, _⟩ := X.blk; exact h
  obtain ⟨n, hn⟩ : ∃ n, n = gs.length := ⟨_, rfl⟩
  rw [← hn] at c2 hcap hlen
  have HN := Lib.hid hn
  obtain ⟨Z, hZ⟩ : ∃ Z, Z = gsz gs := ⟨_, rfl⟩
  rw [← hZ] at hz ⊢
  have HZ := Lib.hid hZ
  clear X cf hn hZ
  go_enter Try.func45, Try.ntmps45
  go_wp2_with fail
  go_loopw [2, 9] (fun t a wr => ∃ k S : Nat, k ≤ n ∧ a = .int .i64 k ∧ t = .int .i64 S ∧ S ≤ 100000 ∧ Hid (S = gsz (gs.take k)) ∧ wr = w) (fun _ a _ => n - (intOf a).toNat)
  case atStart => exact ⟨0, 0, Nat.zero_le _, rfl, rfl, by omega, rfl, rfl⟩
  case round =>
    obtain ⟨k, S, hk, rfl, rfl, hS, HS, rfl⟩ := hrel
    by_cases hlt : k < n
    · obtain ⟨g, hg⟩ : ∃ g, gs[k]? = some g := ⟨_, List.getElem?_eq_getElem (by rw [← HN.out]; exact hlt)⟩
      obtain ⟨A, ca, asl, B, cb, bsl, a1, a2, a3, a4, a5, a6, a7, a8⟩ := HX.out.grp hg
      have e1 := gsz_take hg
      have e2 := gsz_take_le gs (k + 1)
      have e3 : g.size = szs g.ways + szs g.row := rfl
      have hgz : S + g.size ≤ 100000 := by have := HZ.out; have := HS.out; omega
      have HSZ := Lib.hid (size_any wr G (k * 2) (k * 2 + 1) A B _ _ ca cb asl bsl g.ways g.row rfl a1 a2 rfl rfl a3 a4 a5 a6 a7 a8 (by omega))
      rw [← e3] at HSZ
      obtain ⟨gz, hgz'⟩ : ∃ gz, gz = g.size := ⟨_, rfl⟩
      rw [← hgz'] at HSZ hgz
      have HE := Lib.hid (show S + gz = gsz (gs.take (k + 1)) by rw [e1, ← hgz', ← HS.out])
      have hki : (k : Int) < n := by omega
      have hk0 : (0 : Int) ≤ k := by omega
      clear hg a1 a2 a3 a4 a5 a6 a7 a8 e1 e2 e3 hgz'
      go_wp2_with fail
      refine HSZ.out.mono ?_
      rintro e w2 ⟨rfl, rfl⟩
      go_wp2
      go_roundw
      case rel => exact ⟨k + 1, S + gz, by omega, by go_num, by go_num, by omega, HE.out, by first | rfl | trivial⟩
      case measure => simp [intOf]; omega
    · obtain rfl : k = n := by omega
      have hS1 : S = Z := by rw [HS.out, HN.out, List.take_length, HZ.out]
      subst hS1
      clear HS
      by_cases h1 : 400 < S
      · have h1i : (400 : Int) < (S : Int) := by omega
        go_wp2
        go_end0
        exact ⟨rfl, fun _ => HPS.out, fun h => absurd (.inl h1) h⟩
      · have h1i : ¬ (400 : Int) < (S : Int) := by omega
        by_cases h2 : 50 < d
        · have h2i : (50 : Int) < (d : Int) := by omega
          go_wp2
          go_end0
          exact ⟨rfl, fun _ => HPS.out, fun h => absurd (.inr h2) h⟩
        · have h2i : ¬ (50 : Int) < (d : Int) := by omega
          go_wp2
          go_end0
          exact ⟨rfl, fun h => by omega, fun _ => rfl⟩
set_option maxRecDepth 100000 in
set_option maxHeartbeats 2000000 in
theorem weigh_none (w : World) (P : Nat) (s : ByteArray) (i : Nat) (d : Nat) (H : PsB w P s i (.slice none 0 0) d true) (hd : d ≤ 1000000) :
    Calls Try.prog 45 #[ptr P] w fun e w' => e = .returned (.tuple #[]) ∧ PsB w' P s i (.slice none 0 0) d true ∧ Kb (fun j => j = P) w w' := by
  obtain ⟨_, _, c2, c3, c4, cf⟩ := ps_cells H
  have f2 := cf 2; have f4 := cf 4
  have HPS := Lib.hid (long_ps H)
  have HH := Lib.hid H
  clear H cf
  go_enter Try.func45, Try.ntmps45
  go_wp2_with fail
  go_loopw [2, 9] (fun t a wr => a = .int .i64 0 ∧ t = .int .i64 0 ∧ wr = w) (fun _ _ _ => 0)
  case atStart => exact ⟨rfl, rfl, rfl⟩
  case round =>
    obtain ⟨rfl, rfl, rfl⟩ := hrel
    by_cases h2 : 50 < d
    · have h2i : (50 : Int) < (d : Int) := by omega
      go_wp2
      go_end0
      exact ⟨rfl, HPS.out⟩
    · have h2i : ¬ (50 : Int) < (d : Int) := by omega
      go_wp2
      go_end0
      exact ⟨rfl, HH.out, Kb.refl _ _⟩
end Go.Proofs.Ytejdfpieblkapaa

/- The parser's calls: atom. -/
namespace Go.Proofs.Ytejdfpieblkapaa
open Go.RowKit Go.Shelf

section
variable {w0 w : World} {P : Nat} {s : ByteArray} {i : Nat} {d : Int} {st : Option (List Grp × Grp)}
theorem PS.open' (H : PS w0 w P s i d st) : ∃ ov l, PsB w P s i ov d l ∧ ∀ (w' : World) (i' : Nat) (d' : Int), Kb (fun j => j = P) w w' → PsB w' P s i' ov d' l → PS w0 w' P s i' d' st := by
  cases st with
  | none =>
    obtain ⟨h1, h2, h3⟩ := H
    exact ⟨_, _, h1, fun w' i' d' hk hp => ⟨hp, h2, h3.trans (hk.below h3.size (fun i he => by rw [show i = P from he]; exact h2))⟩⟩
  | some x =>
    obtain ⟨lo, g⟩ := x
    obtain ⟨G, cap, h⟩ := H
    exact ⟨_, _, h.ps, fun w' i' d' hk hp => ⟨G, cap, h.psk hk hp⟩⟩
theorem PS.below (H : PS w0 w P s i d st) {w' : World} (hb : Below w.heap.size w w') : PS w0 w' P s i d st := by
  obtain ⟨ov, l, h1, h2⟩ := H.open'
  exact h2 w' i d (Kb.of_below _ hb) (h1.below hb)
def putS (r : Rx) (x : List Grp × Grp) : List Grp × Grp := (x.1, x.2.put r)
set_option maxHeartbeats 1000000 in
theorem put_none (w : World) (P nb : Nat) (s : ByteArray) (i : Nat) (ov : Value) (d : Int) (H : PsB w P s i ov d true) :
    Calls Try.prog 55 #[ptr P, ptr nb] w fun e w' => e = .returned (.tuple #[]) ∧ w' = w := by
  obtain ⟨_, _, _, _, c4, _⟩ := ps_cells H
  clear H
  go_enter Try.func55, Try.ntmps55
  go_wp2
  go_end0
  exact ⟨rfl, rfl⟩
/-- A set is made, and put behind. -/
theorem putset (t : Ws) (H : PS w0 w P s i d st) (hb : ∀ lo g, st = some (lo, g) → lo.length ≤ 100 ∧ g.row.length ≤ 1000) :
    Calls Try.prog 17 #[wsV t] w fun e w1 => ∃ nb, e = .returned (ptr nb) ∧ Calls Try.prog 55 #[ptr P, ptr nb] w1 fun e w2 => e = .returned (.tuple #[]) ∧ PS w0 w2 P s i d (st.map (putS (.set t))) := by
  cases st with
  | none =>
    refine (set_q (fun _ => True) t w).mono ?_
    rintro e w1 ⟨nb, rfl, y1, y2⟩
    have H1 := H.below y2
    refine ⟨nb, rfl, (put_none w1 P nb s i _ d H1.1).mono ?_⟩
    rintro e w2 ⟨rfl, rfl⟩
    exact ⟨rfl, H1⟩
  | some x =>
    obtain ⟨lo, g⟩ := x
    obtain ⟨G, cap, ρ, vs, X, hf⟩ := H
    obtain ⟨b1, b2⟩ := hb lo g rfl
    refine (set_q (fun i => ρ i = 0) t w).mono ?_
    rintro e w1 ⟨nb, rfl, y1, y2⟩
    refine ⟨nb, rfl, (put_any w0 w1 P G cap s i d lo g (.set t) nb ⟨ρ, vs, X.below y2, fun i hi => hf i (Nat.le_trans y2.size hi), ndq_fresh hf y1⟩ b1 b2).mono ?_⟩
    rintro e w2 ⟨rfl, h⟩
    exact ⟨rfl, G, cap, h⟩
end
/-- What atom answers. -/
def AtTo (w0 : World) (P : Nat) (s : ByteArray) (i : Nat) (d : Int) (st : Option (List Grp × Grp)) (e : Ending) (w' : World) : Prop :=
  (∃ t j, atomF s.data.toList i = some (t, j) ∧ e = .returned (.bool true) ∧ PS w0 w' P s j d (st.map (putS (.set t)))) ∨ (atomF s.data.toList i = none ∧ e = .returned (.bool false) ∧ ∃ j, j ≤ s.size ∧ PS w0 w' P s j d st)

set_option maxRecDepth 100000 in
set_option maxHeartbeats 4000000 in
theorem atom_any (w0 w : World) (P : Nat) (s : ByteArray) (i : Nat) (d : Int) (st : Option (List Grp × Grp)) (H : PS w0 w P s i d st) (hb : ∀ lo g, st = some (lo, g) → lo.length ≤ 100 ∧ g.row.length ≤ 1000) (hi : i ≤ s.size) (hs : s.size ≤ 1000000) :
    Calls Try.prog 44 #[ptr P] w (AtTo w0 P s i d st) := by
  obtain ⟨ov, l, hp, hback⟩ := H.open'
  have hPl := lt_of_heap hp
  have hb0 : Below w.heap.size w (w.alloc (.cells #[.int .u64 0, .int .u64 0, .int .u64 0, .int .u64 0] 41)) := (Below.refl _ w).alloc (Nat.le_refl _) _
  have hA0 := alloc_ws w
  have hz0 : (w.alloc (.cells #[.int .u64 0, .int .u64 0, .int .u64 0, .int .u64 0] 41)).heap.size = w.heap.size + 1 := by simp
  have hp0 := hp.below hb0
  -- behind the reading: a set is put
  have hput : ∀ (w1 : World) (t : Ws) (j : Nat), Kb (fun j => j = P) w w1 → PsB w1 P s j ov d l → Calls Try.prog 17 #[wsV t] w1 fun e w1 => ∃ nb, e = .returned (ptr nb) ∧ Calls Try.prog 55 #[ptr P, ptr nb] w1 fun e w2 => e = .returned (.tuple #[]) ∧ PS w0 w2 P s j d (st.map (putS (.set t))) := fun w1 t j hk hp => putset t (hback w1 j d hk hp) hb
  have HPUT := Lib.hid hput; have HBACK := Lib.hid hback
  have HK0 := Lib.hid (Kb.of_below (fun j => j = P) hb0)
  have hat : atomF s.data.toList i = if nx s.data.toList i = 46 then some ((btw 10 1).inv 4, i + 1) else if nx s.data.toList i = 91 then classF s.data.toList (i + 1) else (letF OUT s.data.toList i).map fun x => (btw x.1 1, x.2) := rfl
  have HAT := Lib.hid hat
  clear hput hback H hb hat
  obtain ⟨w1, hw1⟩ : ∃ w1, w1 = w.alloc (.cells #[.int .u64 0, .int .u64 0, .int .u64 0, .int .u64 0] 41) := ⟨_, rfl⟩
  rw [← hw1] at hA0 hz0 hp0 HK0
  have HA0 := Lib.hid hA0
  have HW1 := Lib.hid hw1
  clear hp hb0 hA0
  by_cases h46 : nx s.data.toList i = 46
  · have hlt := nx_in h46 (by omega)
    have HT := Lib.hid (take_yes w1 P 46 s i ov d l hp0 hi hs h46 (by omega))
    rw [hw1] at HT
    have HATe := Lib.hid (show atomF s.data.toList i = some ((btw 10 1).inv 4, i + 1) by rw [HAT.out, if_pos h46])
    clear hp0 hw1
    go_enter Try.func44, Try.ntmps44
    go_wp2_with fail
    refine HT.out.mono ?_
    rintro e w2 ⟨rfl, h1, h2⟩
    rw [← HW1.out] at h2
    have HK2 := Lib.hid (HK0.out.trans h2 (fun _ _ h => h))
    have HP2 := Lib.hid h1
    have HA2 := Lib.hid ((h2.block _ (by omega) (by omega)).trans HA0.out)
    have hz2 := h2.size
    clear h1 h2
    go_wp2_with fail
    refine (between_any 10 10 w2 (by omega) (by omega)).mono ?_
    rintro e w3 ⟨rfl, h3⟩
    have HO := Lib.hid (others_any (btw 10 1) w3 (btw_ok _ _))
    have HB3 := Lib.hid h3
    clear h3
    generalize (btw 10 1).inv 4 = t at HO HATe
    generalize btw 10 1 = t1 at HO ⊢
    go_wp2_with fail
    refine HO.out.mono ?_
    rintro e w4 ⟨rfl, h4⟩
    have hb4 := below_tr HB3.out h4 HB3.out.size
    have hA4 := (hb4.block _ (by omega)).trans HA2.out
    obtain ⟨z0, z1, z2, z3, f0, f1, f2, f3⟩ := ws_cells hA4
    have hk5 := set4_kb w4 w.heap.size t
    have hKK := (HK2.out.trans (Kb.of_below (fun j => j = P) hb4) (fun _ _ h => h)).trans hk5 (fun i hi h => by have h' : i = w.heap.size := h; omega)
    have hPP : PsB _ P s (i + 1) ov d l := (hk5.block P (Nat.lt_of_lt_of_le (lt_of_heap HP2.out) hb4.size) (by omega)).trans (HP2.out.below hb4)
    have HS := Lib.hid (HPUT.out _ t (i + 1) hKK hPP)
    clear h4 hb4 hA4 hk5 hKK hPP
    go_wp2_with fail
    refine HS.out.mono ?_
    rintro e w5 ⟨nb, rfl, h5⟩
    have H5 := Lib.hid h5
    clear h5
    go_wp2_with fail
    refine H5.out.mono ?_
    rintro e w6 ⟨rfl, h6⟩
    have H6 := Lib.hid h6
    clear h6
    go_wp2
    go_ret
    exact .inl ⟨t, i + 1, HATe.out, rfl, H6.out⟩
  · have HTn := Lib.hid (take_no w1 P 46 s i ov d l hp0 hi hs h46)
    rw [hw1] at HTn
    by_cases h91 : nx s.data.toList i = 91
    · have hlt := nx_in h91 (by omega)
      have HATe := Lib.hid (show atomF s.data.toList i = classF s.data.toList (i + 1) by rw [HAT.out, if_neg h46, if_pos h91])
      have HT := Lib.hid (fun (w' : World) h => take_yes w' P 91 s i ov d l h hi hs h91 (by omega))
      have HCL := Lib.hid (fun (w' : World) h => class_any w' P s (i + 1) ov d l h (by omega) hs)
      clear hp0 hw1
      go_enter Try.func44, Try.ntmps44
      go_wp2_with fail
      refine HTn.out.mono ?_
      rintro e w1' ⟨rfl, h1, h1b⟩
      rw [← HW1.out] at h1b
      have HK1 := Lib.hid (HK0.out.trans (Kb.of_below (fun j => j = P) h1b) (fun _ _ h => h))
      have HA1 := Lib.hid ((h1b.block _ (by omega)).trans HA0.out)
      have hz1 := h1b.size
      have HT1 := Lib.hid (HT.out w1' h1)
      clear h1 h1b
      go_wp2_with fail
      refine HT1.out.mono ?_
      rintro e w2 ⟨rfl, h1, h2⟩
      have HK2 := Lib.hid (HK1.out.trans h2 (fun _ _ h => h))
      have HA2 := Lib.hid ((h2.block _ (by omega) (by omega)).trans HA1.out)
      have hz2 := h2.size
      have HC2 := Lib.hid (HCL.out w2 h1)
      clear h1 h2
      go_wp2_with fail
      refine HC2.out.mono ?_
      rintro e w3 ⟨q1, q2⟩
      have hz3 := q1.size
      have hK3 := HK2.out.trans q1 (fun _ _ h => h)
      have hA3 := (q1.block _ (by omega) (by omega)).trans HA2.out
      obtain ⟨z0, z1, z2, z3, f0, f1, f2, f3⟩ := ws_cells hA3
      rcases q2 with ⟨t, j, hr, rfl, hpp⟩ | ⟨hr, t, rfl, j, hj, hpp⟩
      · have hk5 := set4_kb w3 w.heap.size t
        have hKK := hK3.trans hk5 (fun i hi h => by have h' : i = w.heap.size := h; omega)
        have hPP : PsB _ P s j ov d l := (hk5.block P (lt_of_heap hpp) (by omega)).trans hpp
        have HS := Lib.hid (HPUT.out _ t j hKK hPP)
        have HR := Lib.hid hr
        clear q1 hK3 hA3 hr hpp hk5 hKK hPP
        go_wp2_with fail
        refine HS.out.mono ?_
        rintro e w5 ⟨nb, rfl, h5⟩
        have H5 := Lib.hid h5
        clear h5
        go_wp2_with fail
        refine H5.out.mono ?_
        rintro e w6 ⟨rfl, h6⟩
        have H6 := Lib.hid h6
        clear h6
        go_wp2
        go_ret
        exact .inl ⟨t, j, by rw [HATe.out, HR.out], rfl, H6.out⟩
      · have hk5 := set4_kb w3 w.heap.size t
        have hKK := hK3.trans hk5 (fun i hi h => by have h' : i = w.heap.size := h; omega)
        have hPP : PsB _ P s j ov d l := (hk5.block P (lt_of_heap hpp) (by omega)).trans hpp
        have HS := Lib.hid (HBACK.out _ j d hKK hPP)
        have HR := Lib.hid hr
        clear q1 hK3 hA3 hr hpp hk5 hKK hPP
        go_wp2
        go_ret
        exact .inr ⟨by rw [HATe.out, HR.out], rfl, j, hj, HS.out⟩
    · have HATe := Lib.hid (show atomF s.data.toList i = (letF OUT s.data.toList i).map fun x => (btw x.1 1, x.2) by rw [HAT.out, if_neg h46, if_neg h91])
      have HT := Lib.hid (fun (w' : World) h => take_no w' P 91 s i ov d l h hi hs h91)
      have HCL := Lib.hid (fun (w' : World) h => letter_any w' P OUT s i ov d l h hi hs out0)
      have hlf := fun b j h => letF_ok (sp := OUT) (s := s) (i := i) (b := b) (j := j) h hi out0
      have HLF := Lib.hid hlf
      clear hp0 hw1 hlf
      go_enter Try.func44, Try.ntmps44
      go_wp2_with fail
      refine HTn.out.mono ?_
      rintro e w1' ⟨rfl, h1, h1b⟩
      rw [← HW1.out] at h1b
      have HK1 := Lib.hid (HK0.out.trans (Kb.of_below (fun j => j = P) h1b) (fun _ _ h => h))
      have HA1 := Lib.hid ((h1b.block _ (by omega)).trans HA0.out)
      have hz1 := h1b.size
      have HT1 := Lib.hid (HT.out w1' h1)
      clear h1 h1b
      go_wp2_with fail
      refine HT1.out.mono ?_
      rintro e w2 ⟨rfl, h1, h2⟩
      have HK2 := Lib.hid (HK1.out.trans (Kb.of_below (fun j => j = P) h2) (fun _ _ h => h))
      have HA2 := Lib.hid ((h2.block _ (by omega)).trans HA1.out)
      have hz2 := h2.size
      have HC2 := Lib.hid (HCL.out w2 h1)
      clear h1 h2
      go_wp2_with fail
      refine HC2.out.mono ?_
      rintro e w3 ⟨q1, q2⟩
      have hz3 := q1.size
      have HK3 := Lib.hid (HK2.out.trans q1 (fun _ _ h => h))
      have HA3 := Lib.hid ((q1.block _ (by omega) (by omega)).trans HA2.out)
      rcases q2 with ⟨t, j, hr, rfl, hpp⟩ | ⟨hr, rfl, j, hj, hpp⟩
      · have htl := (HLF.out t j hr).1
        have HBT := Lib.hid (between_any t t w3 htl htl)
        rw [show t + 1 - t = 1 by omega] at HBT
        have HR := Lib.hid hr; have HPP := Lib.hid hpp
        clear q1 hr hpp htl
        go_wp2_with fail
        refine HBT.out.mono ?_
        rintro e w4 ⟨rfl, h4⟩
        have hA4 := (h4.block _ (by omega)).trans HA3.out
        obtain ⟨z0, z1, z2, z3, f0, f1, f2, f3⟩ := ws_cells hA4
        have hk5 := set4_kb w4 w.heap.size (btw t 1)
        have hKK := (HK3.out.trans (Kb.of_below (fun j => j = P) h4) (fun _ _ h => h)).trans hk5 (fun i hi h => by have h' : i = w.heap.size := h; omega)
        have hPP : PsB _ P s j ov d l := (hk5.block P (Nat.lt_of_lt_of_le (lt_of_heap HPP.out) h4.size) (by omega)).trans (HPP.out.below h4)
        have HS := Lib.hid (HPUT.out _ (btw t 1) j hKK hPP)
        have hfin : atomF s.data.toList i = some (btw t 1, j) := by rw [HATe.out, HR.out]; rfl
        have HFI := Lib.hid hfin
        generalize btw t 1 = u at HS HFI z0 z1 z2 z3 f0 f1 f2 f3 ⊢
        clear h4 hA4 hk5 hKK hPP hfin
        go_wp2_with fail
        refine HS.out.mono ?_
        rintro e w5 ⟨nb, rfl, h5⟩
        have H5 := Lib.hid h5
        clear h5
        go_wp2_with fail
        refine H5.out.mono ?_
        rintro e w6 ⟨rfl, h6⟩
        have H6 := Lib.hid h6
        clear h6
        go_wp2
        go_ret
        exact .inl ⟨u, j, HFI.out, rfl, H6.out⟩
      · have HBT := Lib.hid (between_any 0 0 w3 (by omega) (by omega))
        rw [show 0 + 1 - 0 = 1 by omega] at HBT
        have HR := Lib.hid hr; have HPP := Lib.hid hpp
        clear q1 hr hpp
        go_wp2_with fail
        refine HBT.out.mono ?_
        rintro e w4 ⟨rfl, h4⟩
        have hA4 := (h4.block _ (by omega)).trans HA3.out
        obtain ⟨z0, z1, z2, z3, f0, f1, f2, f3⟩ := ws_cells hA4
        have hk5 := set4_kb w4 w.heap.size (btw 0 1)
        have hKK := (HK3.out.trans (Kb.of_below (fun j => j = P) h4) (fun _ _ h => h)).trans hk5 (fun i hi h => by have h' : i = w.heap.size := h; omega)
        have hPP : PsB _ P s j ov d l := (hk5.block P (Nat.lt_of_lt_of_le (lt_of_heap HPP.out) h4.size) (by omega)).trans (HPP.out.below h4)
        have HS := Lib.hid (HBACK.out _ j d hKK hPP)
        have hfin : atomF s.data.toList i = none := by rw [HATe.out, HR.out]; rfl
        have HFI := Lib.hid hfin
        generalize btw 0 1 = u at HS ⊢
        clear h4 hA4 hk5 hKK hPP hfin
        go_wp2
        go_ret
        exact .inr ⟨HFI.out, rfl, j, hj, HS.out⟩
end Go.Proofs.Ytejdfpieblkapaa

/- The parser's calls on its state, long or not; what is known between rounds of read. -/
namespace Go.Proofs.Ytejdfpieblkapaa
open Go.RowKit Go.Shelf

section
variable {w0 w : World} {P : Nat} {s : ByteArray} {i : Nat} {d : Int} {st : Option (List Grp × Grp)}
theorem PS.cells (H : PS w0 w P s i d st) : w.cell? ⟨P, 0, none⟩ = some (.string s) ∧ w.cell? ⟨P, 1, none⟩ = some (.int .i64 i) ∧ w.cell? ⟨P, 3, none⟩ = some (.int .i64 d) := by
  obtain ⟨ov, l, h1, _⟩ := H.open'
  obtain ⟨c0, c1, _, c3, _, _⟩ := ps_cells h1
  exact ⟨c0, c1, c3⟩
theorem PS.bel (H : PS w0 w P s i d st) : Below w0.heap.size w0 w := by
  cases st with
  | none => exact H.2.2
  | some x => obtain ⟨lo, g⟩ := x; obtain ⟨G, cap, h⟩ := H; exact h.bel
theorem ptake_no (c : Nat) (H : PS w0 w P s i d st) (hi : i ≤ s.size) (hs : s.size ≤ 1000000) (hc : nx s.data.toList i ≠ c) : Calls Try.prog 37 #[ptr P, .int .u8 c] w fun e w' => e = .returned (.bool false) ∧ PS w0 w' P s i d st := by
  obtain ⟨ov, l, h1, h2⟩ := H.open'
  refine (take_no w P c s i ov d l h1 hi hs hc).mono ?_
  rintro e w' ⟨rfl, h3, h4⟩
  exact ⟨rfl, h2 w' i d (Kb.of_below _ h4) h3⟩
theorem ptake_yes (c : Nat) (H : PS w0 w P s i d st) (hi : i ≤ s.size) (hs : s.size ≤ 1000000) (hc : nx s.data.toList i = c) (hc0 : 0 < c) : Calls Try.prog 37 #[ptr P, .int .u8 c] w fun e w' => e = .returned (.bool true) ∧ PS w0 w' P s (i + 1) d st := by
  obtain ⟨ov, l, h1, h2⟩ := H.open'
  refine (take_yes w P c s i ov d l h1 hi hs hc hc0).mono ?_
  rintro e w' ⟨rfl, h3, h4⟩
  exact ⟨rfl, h2 w' (i + 1) d h4 h3⟩
theorem pnext (H : PS w0 w P s i d st) (hi : i ≤ s.size) (hs : s.size ≤ 1000000) : Calls Try.prog 42 #[ptr P] w fun e w' => e = .returned (.int .u8 (nx s.data.toList i)) ∧ PS w0 w' P s i d st := by
  obtain ⟨ov, l, h1, h2⟩ := H.open'
  refine (next_any w P s i ov d l h1 hi hs).mono ?_
  rintro e w' ⟨rfl, h3, h4⟩
  exact ⟨rfl, h2 w' i d (Kb.of_below _ h4) h3⟩
theorem PS.kb_none {w' : World} {i' : Nat} {d' : Int} (H : PS w0 w P s i d none) (hk : Kb (fun j => j = P) w w') (hp : PsB w' P s i' (.slice none 0 0) d' true) : PS w0 w' P s i' d' none := by
  obtain ⟨_, h2, h3⟩ := H
  exact ⟨hp, h2, h3.trans (hk.below h3.size (fun i he => by rw [show i = P from he]; exact h2))⟩
/-- What is read is not too much. -/
def Fit (st : Option (List Grp × Grp)) : Prop := ∀ lo g, st = some (lo, g) → lo.length ≤ 50 ∧ gsz (lo ++ [g]) ≤ 400
theorem Fit.ok {lo : List Grp} {g : Grp} (h : Fit (some (lo, g))) : lo.length ≤ 50 ∧ g.Ok ∧ g.size ≤ 400 ∧ gsz lo + g.size ≤ 400 := by
  obtain ⟨h1, h2⟩ := h lo g rfl
  rw [gsz_append, gsz_one] at h2
  have h3 : g.size = szs g.ways + szs g.row := rfl
  have h4 := szs_len g.ways
  have h5 := szs_len g.row
  exact ⟨h1, ⟨by omega, by omega, fun r hr => by have := szs_mem hr; omega, by omega⟩, by omega, by omega⟩
def nextS (x : List Grp × Grp) : List Grp × Grp := (x.1, x.2.nextWay)
def openS (x : List Grp × Grp) : List Grp × Grp := (x.1 ++ [x.2], g0)
def closeS (x : List Grp × Grp) : List Grp × Grp := (x.1.dropLast, (x.1.getLast?.getD g0).put x.2.whole)
def repS (c : Nat) (x : List Grp × Grp) : List Grp × Grp := (x.1, x.2.rep c)
theorem palt (H : PS w0 w P s i d st) (hf : Fit st) : Calls Try.prog 38 #[ptr P] w fun e w' => e = .returned (.tuple #[]) ∧ PS w0 w' P s i d (st.map nextS) := by
  cases st with
  | none =>
    refine (alt_none w P s i _ d H.1).mono ?_
    rintro e w' ⟨rfl, rfl⟩
    exact ⟨rfl, H⟩
  | some x =>
    obtain ⟨lo, g⟩ := x
    obtain ⟨G, cap, h⟩ := H
    obtain ⟨h1, h2, _, _⟩ := hf.ok
    refine (alt_some w0 w P G cap s i d lo g h h2 (by omega)).mono ?_
    rintro e w' ⟨rfl, h3⟩
    exact ⟨rfl, G, cap, h3⟩
theorem pbegin {d : Nat} (H : PS w0 w P s i d st) (hf : Fit st) (hd : d ≤ 1000000) : Calls Try.prog 39 #[ptr P] w fun e w' => e = .returned (.tuple #[]) ∧ PS w0 w' P s i ((d + 1 : Nat) : Int) (st.map openS) := by
  cases st with
  | none =>
    refine (begin_none w P s i _ d H.1 hd).mono ?_
    rintro e w' ⟨rfl, h1, h2⟩
    exact ⟨rfl, H.kb_none h2 h1⟩
  | some x =>
    obtain ⟨lo, g⟩ := x
    obtain ⟨G, cap, h⟩ := H
    obtain ⟨h1, h2, _, _⟩ := hf.ok
    refine (begin_pi w0 w P G cap s i d (lo ++ [g]) h (by simp; omega) hd).mono ?_
    rintro e w' ⟨rfl, G', cap', h3⟩
    exact ⟨rfl, G', cap', h3⟩
theorem pend {d : Nat} (H : PS w0 w P s i ((d + 1 : Nat) : Int) st) (hf : Fit st) (hd : d ≤ 1000000) (hne : ∀ lo g, st = some (lo, g) → lo ≠ []) : Calls Try.prog 40 #[ptr P] w fun e w' => e = .returned (.tuple #[]) ∧ PS w0 w' P s i d (st.map closeS) := by
  cases st with
  | none =>
    refine (end_none w P s i _ d H.1 hd).mono ?_
    rintro e w' ⟨rfl, h1, h2⟩
    exact ⟨rfl, H.kb_none h2 h1⟩
  | some x =>
    obtain ⟨lo, g⟩ := x
    obtain ⟨G, cap, h⟩ := H
    obtain ⟨h1, h2, _, h4⟩ := hf.ok
    rcases List.eq_nil_or_concat lo with e | ⟨lo, b, rfl⟩
    · exact absurd e (hne lo g rfl)
    · rw [List.concat_eq_append] at *
      have hb : b.row.length ≤ 1000 := by
        have := szs_len b.row
        have h5 : b.size = szs b.ways + szs b.row := rfl
        rw [gsz_append, gsz_one] at h4
        omega
      refine (end_some w0 w P G cap s i d lo b g h h2 (by simp at h1; omega) hd hb).mono ?_
      rintro e w' ⟨rfl, h3⟩
      refine ⟨rfl, G, cap, ?_⟩
      have e1 : closeS (lo ++ [b], g) = (lo, b.put g.whole) := by unfold closeS; simp
      show PI w0 w' P G cap s i d ((closeS (lo ++ [b], g)).1 ++ [(closeS (lo ++ [b], g)).2])
      rw [e1]; exact h3
theorem prepeat (H : PS w0 w P s i d st) (hf : Fit st) (hi : i < s.size) (hs : s.size ≤ 1000000) (hne : ∀ lo g, st = some (lo, g) → g.row ≠ []) : Calls Try.prog 43 #[ptr P] w fun e w' => e = .returned (.tuple #[]) ∧ PS w0 w' P s (i + 1) d (st.map (repS (nx s.data.toList i))) := by
  cases st with
  | none =>
    refine (repeat_none w P s i _ d H.1 hi hs).mono ?_
    rintro e w' ⟨rfl, h1, h2⟩
    exact ⟨rfl, H.kb_none h2 h1⟩
  | some x =>
    obtain ⟨lo, g⟩ := x
    obtain ⟨G, cap, h⟩ := H
    obtain ⟨h1, h2, _, h4⟩ := hf.ok
    rcases List.eq_nil_or_concat g.row with e | ⟨rs, z, hz⟩
    · exact absurd e (hne lo g rfl)
    · rw [List.concat_eq_append] at hz
      refine (repeat_some w0 w P G cap s i d lo g rs z hz h h2 (by omega) hi hs).mono ?_
      rintro e w' ⟨rfl, h3⟩
      exact ⟨rfl, G, cap, h3⟩
theorem patom (H : PS w0 w P s i d st) (hf : Fit st) (hi : i ≤ s.size) (hs : s.size ≤ 1000000) : Calls Try.prog 44 #[ptr P] w (AtTo w0 P s i d st) := atom_any w0 w P s i d st H (fun lo g e => by
  subst e
  obtain ⟨h1, h2, _, _⟩ := hf.ok
  have := h2.row
  omega) hi hs
end

/-- Where a factor stands just ahead, there is one. -/
def RowNe (f : Bool) (g : Grp) : Prop := f = true → g.row ≠ []
/-- Between rounds: what is still to be read tells what the parser answers. -/
def RdS (w0 : World) (P : Nat) (s : ByteArray) (k : Nat) (f : Bool) (wr : World) : Prop :=
  ∃ (i d : Nat) (st : Option (List Grp × Grp)), i ≤ s.size ∧ s.size + 1 ≤ k + i ∧ d ≤ i ∧ PS w0 wr P s i d st ∧ Fit st ∧
    (st = none → parseF s.data.toList = none) ∧ (∀ lo g, st = some (lo, g) → parseF s.data.toList = runF s.data.toList k i lo g f ∧ d = lo.length ∧ RowNe f g)
/-- Ahead of weigh. -/
def BrS (w0 : World) (P : Nat) (s : ByteArray) (k : Nat) (f : Bool) (wr : World) : Prop :=
  ∃ (i d : Nat) (st : Option (List Grp × Grp)), i ≤ s.size ∧ s.size + 1 ≤ k + i ∧ d ≤ i ∧ PS w0 wr P s i d st ∧
    (st = none → parseF s.data.toList = none) ∧ (∀ lo g, st = some (lo, g) → parseF s.data.toList = (if heavy lo g = true then none else runF s.data.toList k i lo g f) ∧ d = lo.length ∧ RowNe f g ∧ lo.length ≤ 51 ∧ gsz (lo ++ [g]) ≤ 100000)
theorem weigh_br {w0 w : World} {P : Nat} {s : ByteArray} {k : Nat} {f : Bool} (H : BrS w0 P s k f w) (hs : s.size ≤ 1000000) : Calls Try.prog 45 #[ptr P] w fun e w' => e = .returned (.tuple #[]) ∧ RdS w0 P s k f w' := by
  obtain ⟨i, d, st, h1, h2, h3, h4, h5, h6⟩ := H
  cases st with
  | none =>
    refine (weigh_none w P s i d h4.1 (by omega)).mono ?_
    rintro e w' ⟨rfl, h7, h8⟩
    exact ⟨rfl, i, d, none, h1, h2, h3, h4.kb_none h8 h7, fun _ _ e => (by cases e), h5, fun _ _ e => (by cases e)⟩
  | some x =>
    obtain ⟨lo, g⟩ := x
    obtain ⟨a1, a2, a3, a4, a5⟩ := h6 lo g rfl
    obtain ⟨G, cap, h⟩ := h4
    refine (weigh_some w0 w P G cap s i d (lo ++ [g]) h a5 (by simp; omega) (by omega)).mono ?_
    rintro e w' ⟨rfl, h7, h8⟩
    refine ⟨rfl, ?_⟩
    by_cases hh : 400 < gsz (lo ++ [g]) ∨ 50 < d
    · obtain ⟨h9, h10⟩ := h7 hh
      have hhv : heavy lo g = true := by unfold heavy; rw [← a2]; exact decide_eq_true hh
      rw [if_pos hhv] at a1
      have hPw : w0.heap.size ≤ P := by
        obtain ⟨ρ, vs, X, _⟩ := h
        exact X.low P (by rw [X.rP]; omega)
      exact ⟨i, d, none, h1, h2, h3, ⟨h9, hPw, h.bel.trans (h10.below h.bel.size (fun i he => by rw [show i = P from he]; exact hPw))⟩, fun _ _ e => (by cases e), fun _ => a1, fun _ _ e => (by cases e)⟩
    · rw [h8 hh]
      have hhv : ¬ heavy lo g = true := by unfold heavy; rw [← a2]; intro e; exact hh (of_decide_eq_true e)
      rw [if_neg hhv] at a1
      refine ⟨i, d, some (lo, g), h1, h2, h3, ⟨G, cap, h⟩, fun lo' g' e => ?_, fun e => (by cases e), fun lo' g' e => ?_⟩
      · injection e with e; injection e with e1 e2; subst e1; subst e2; omega
      · injection e with e; injection e with e1 e2; subst e1; subst e2; exact ⟨a1, a2, a3⟩
/-- A step was done. -/
theorem br_of_step {w0 w : World} {P : Nat} {s : ByteArray} {k i j d d' : Nat} {f f' : Bool} {st : Option (List Grp × Grp)} (F : List Grp × Grp → List Grp × Grp) (hk : s.size + 1 ≤ k + 1 + i) (hi : i < s.size) (hij : i < j) (hj : j ≤ s.size) (hd : d' ≤ j) (hst0 : st = none → parseF s.data.toList = none) (hst : ∀ lo g, st = some (lo, g) → parseF s.data.toList = runF s.data.toList (k + 1) i lo g f ∧ d = lo.length ∧ RowNe f g) (hf : Fit st)
    (hF : ∀ lo g, st = some (lo, g) → stepF s.data.toList i lo g f = some (j, (F (lo, g)).1, (F (lo, g)).2, f') ∧ d' = (F (lo, g)).1.length ∧ RowNe f' (F (lo, g)).2 ∧ (F (lo, g)).1.length ≤ lo.length + 1 ∧ gsz ((F (lo, g)).1 ++ [(F (lo, g)).2]) ≤ 100000)
    (H : PS w0 w P s j d' (st.map F)) : BrS w0 P s k f' w := by
  refine ⟨j, d', st.map F, hj, by omega, hd, H, fun e => hst0 (by cases st with | none => rfl | some x => simp at e), fun lo g e => ?_⟩
  cases st with
  | none => simp at e
  | some x =>
    obtain ⟨lo1, g1⟩ := x
    have e' : F (lo1, g1) = (lo, g) := by simpa using e
    obtain ⟨b1, b2, b3, b4, b5⟩ := hF lo1 g1 rfl
    obtain ⟨c1, c2, c3⟩ := hst lo1 g1 rfl
    rw [e'] at b1 b2 b3 b4 b5
    dsimp only at b1 b2 b3 b4 b5
    obtain ⟨d1, _⟩ := hf lo1 g1 rfl
    refine ⟨?_, b2, b3, by omega, b5⟩
    rw [c1]
    simp only [runF]
    rw [if_pos (by rw [← Lib.size_eq]; exact hi), b1]
end Go.Proofs.Ytejdfpieblkapaa
