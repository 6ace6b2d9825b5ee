/- The parser reads all of its text. -/
import Derived.Test.YtejdfpieblkapaaM39
namespace Go.Proofs.Ytejdfpieblkapaa
open Go.RowKit Go.Shelf

theorem repF_size (r : Rx) (c : Nat) : (repF r c).size ≤ 2 * r.size + 2 := by
  unfold repF
  split
  · show 1 + r.size ≤ _; omega
  · split
    · show 1 + r.size + (1 + r.size) ≤ _; omega
    · show 1 + r.size + 1 ≤ _; have := r.size_pos; omega
theorem whole_size (g : Grp) : g.whole.size ≤ 2 * (szs g.ways + (2 * szs g.row + 1)) + 1 := by
  have h1 := orR_size (g.ways ++ [catR g.row])
  have h2 := catR_size g.row
  rw [szs_append, szs_cons, szs_nil] at h1
  show (orR (g.ways ++ [catR g.row])).size ≤ _
  omega
section
variable {lo : List Grp} {g : Grp} (h : Fit (some (lo, g)))
include h
theorem sz_next : gsz (lo ++ [g.nextWay]) ≤ 100000 := by
  obtain ⟨_, _, h3, h4⟩ := h.ok
  rw [gsz_append, gsz_one]
  have e : g.nextWay.size = szs (g.ways ++ [catR g.row]) + szs [] := rfl
  have e2 : g.size = szs g.ways + szs g.row := rfl
  have := catR_size g.row
  rw [e, szs_append, szs_cons, szs_nil]; omega
theorem sz_open : gsz (lo ++ [g] ++ [g0]) ≤ 100000 := by
  obtain ⟨_, _, h3, h4⟩ := h.ok
  rw [gsz_append, gsz_append, gsz_one, gsz_one]
  have e : g0.size = 0 := rfl
  omega
theorem sz_close : gsz (lo.dropLast ++ [(lo.getLast?.getD g0).put g.whole]) ≤ 100000 := by
  obtain ⟨_, _, h3, h4⟩ := h.ok
  have e2 : g.size = szs g.ways + szs g.row := rfl
  have h5 := whole_size g
  have e3 : ∀ b : Grp, (b.put g.whole).size = b.size + g.whole.size := fun b => by
    show szs b.ways + szs (b.row ++ [g.whole]) = szs b.ways + szs b.row + _
    rw [szs_append, szs_cons, szs_nil]; omega
  rw [gsz_append, gsz_one, e3]
  rcases List.eq_nil_or_concat lo with rfl | ⟨lo, b, rfl⟩
  · have : g0.size = 0 := rfl
    simp [gsz]; omega
  · rw [List.concat_eq_append] at h4 ⊢
    rw [gsz_append, gsz_one] at h4
    simp; omega
theorem sz_rep (c : Nat) : gsz (lo ++ [g.rep c]) ≤ 100000 := by
  obtain ⟨_, _, h3, h4⟩ := h.ok
  rw [gsz_append, gsz_one]
  have e2 : g.size = szs g.ways + szs g.row := rfl
  have e : (g.rep c).size = szs g.ways + szs (g.row.dropLast ++ [repF (g.row.getLast?.getD .empty) c]) := rfl
  have h5 := repF_size (g.row.getLast?.getD .empty) c
  rw [e, szs_append, szs_cons, szs_nil]
  rcases List.eq_nil_or_concat g.row with hr | ⟨rs, z, hr⟩
  · rw [hr] at h5 ⊢
    have : Rx.empty.size = 1 := rfl
    simp only [List.getLast?_nil, Option.getD_none, List.dropLast_nil, szs_nil] at h5 ⊢
    omega
  · rw [List.concat_eq_append] at hr
    rw [hr, szs_append, szs_cons, szs_nil] at e2
    rw [hr] at h5 ⊢
    simp only [List.getLast?_append, List.getLast?_singleton, Option.some_or, Option.getD_some, List.dropLast_concat] at h5 ⊢
    omega
theorem sz_put (t : Ws) : gsz (lo ++ [g.put (.set t)]) ≤ 100000 := by
  obtain ⟨_, _, h3, h4⟩ := h.ok
  rw [gsz_append, gsz_one]
  have e2 : g.size = szs g.ways + szs g.row := rfl
  have e : (g.put (.set t)).size = szs g.ways + szs (g.row ++ [.set t]) := rfl
  have e3 : (Rx.set t).size = 1 := rfl
  rw [e, szs_append, szs_cons, szs_nil]; omega
end
/-- What read answers. -/
def RdPost (w0 : World) (P : Nat) (s : ByteArray) (e : Ending) (w' : World) : Prop :=
  (∃ g G cap i d, e = .returned (.bool true) ∧ PI w0 w' P G cap s i d [g] ∧ parseF s.data.toList = finF [] g ∧ g.Ok) ∨ (∃ i d, e = .returned (.bool true) ∧ PS w0 w' P s i d none ∧ parseF s.data.toList = none) ∨ (e = .returned (.bool false) ∧ parseF s.data.toList = none ∧ ∃ i d st, PS w0 w' P s i d st)

theorem none_of_step {s : ByteArray} {k i : Nat} {f : Bool} {st : Option (List Grp × Grp)} (hi : i < s.size) (hst0 : st = none → parseF s.data.toList = none) (hst : ∀ lo g, st = some (lo, g) → parseF s.data.toList = runF s.data.toList (k + 1) i lo g f ∧ stepF s.data.toList i lo g f = none) : parseF s.data.toList = none := by
  cases st with
  | none => exact hst0 rfl
  | some x =>
    obtain ⟨lo, g⟩ := x
    obtain ⟨h1, h2⟩ := hst lo g rfl
    rw [h1]
    simp only [runF]
    rw [if_pos (by rw [← Lib.size_eq]; exact hi), h2]

/-- At the text's end. -/
theorem read_end {w0 w1 : World} {P : Nat} {s : ByteArray} {k d : Nat} {f : Bool} {st : Option (List Grp × Grp)} (hk : 1 ≤ k) (hlen : s.data.toList.length = s.size) (HP : PS w0 w1 P s s.size d st) (HF : Fit st) (HN : st = none → parseF s.data.toList = none) (HS : ∀ lo g, st = some (lo, g) → parseF s.data.toList = runF s.data.toList k s.size lo g f ∧ d = lo.length ∧ RowNe f g) : RdPost w0 P s (.returned (.bool ((d : Int) == 0))) w1 := by
  have hd0 : ((d : Int) == 0) = decide (d = 0) := by
    rw [Bool.eq_iff_iff]; simp
  rw [hd0]
  cases st with
  | none =>
    by_cases hd : d = 0
    · rw [decide_eq_true hd]
      exact .inr (.inl ⟨_, _, rfl, HP, HN rfl⟩)
    · rw [decide_eq_false hd]
      exact .inr (.inr ⟨rfl, HN rfl, _, _, _, HP⟩)
  | some x =>
    obtain ⟨lo, g⟩ := x
    obtain ⟨a1, a2, a3⟩ := HS lo g rfl
    have hrun : parseF s.data.toList = finF lo g := by
      rw [a1]
      obtain ⟨k, rfl⟩ : ∃ m, k = m + 1 := ⟨k - 1, by omega⟩
      simp only [runF]
      rw [if_neg (by rw [hlen]; omega)]
    by_cases hd : d = 0
    · rw [decide_eq_true hd]
      have hlo : lo = [] := List.length_eq_zero_iff.1 (by omega)
      subst hlo
      obtain ⟨G, cap, hpi⟩ := HP
      exact .inl ⟨g, G, cap, _, _, rfl, hpi, hrun, HF.ok.2.1⟩
    · rw [decide_eq_false hd]
      have hlo : lo ≠ [] := fun e => hd (by rw [a2, e]; rfl)
      have hfn : parseF s.data.toList = none := by rw [hrun]; unfold finF; rw [if_neg hlo]
      exact .inr (.inr ⟨rfl, hfn, _, _, _, HP⟩)

set_option maxRecDepth 100000 in
set_option maxHeartbeats 4000000 in
theorem pread_any (w0 w : World) (P : Nat) (s : ByteArray) (H : PS w0 w P s 0 (0 : Nat) (some ([], g0))) (hs : s.size ≤ 1000000) :
    Calls Try.prog 22 #[ptr P] w (RdPost w0 P s) := by
  have hlen : s.data.toList.length = s.size := by rw [← Lib.size_eq]
  have h0 : RdS w0 P s (s.size + 1) false w := ⟨0, 0, some ([], g0), by omega, by omega, by omega, H, fun lo g e => by injection e with e; injection e with e1 e2; subst e1; subst e2; exact ⟨by simp, by decide⟩, fun e => (by cases e), fun lo g e => by injection e with e; injection e with e1 e2; subst e1; subst e2; exact ⟨by unfold parseF; rw [hlen], rfl, fun e => (by cases e)⟩⟩
  have H0 := Lib.hid h0
  have HLen := Lib.hid hlen
  clear H h0 hlen
  go_enter Try.func22, Try.ntmps22
  go_wp2_with fail
  go_loopg [3] (s.size + 1) (fun k v wr => ∃ f, v = .bool f ∧ Hid (RdS w0 P s k f wr))
  case atStart => exact ⟨false, rfl, H0.out⟩
  case round =>
    obtain ⟨f, rfl, HR⟩ := hrel
    obtain ⟨i, d, st, h1, h2, h3, h4, h5, h6, h7⟩ := HR.out
    obtain ⟨c0, c1, c3⟩ := h4.cells
    have HP0 := Lib.hid h4; have HF := Lib.hid h5; have HN := Lib.hid h6; have HS := Lib.hid h7
    clear h4 h5 h6 h7 HR H0
    rcases Nat.lt_or_ge i s.size with hlt | hge
    · rcases gk with _ | gk
      · omega
      have hii : (i : Int) < s.size := by omega
      go_wp2_with fail
      go_quiet (fail)
      have HP1 := Lib.hid (HP0.out.below (below_drewN _ wr nq))
      generalize wr.drewN nq = w1 at HP1 ⊢
      clear c0 c1 hii HP0
      go_wp2_with fail
      by_cases hA : nx s.data.toList i = 124
      · refine (ptake_yes 124 HP1.out (by omega) hs hA (by omega)).mono ?_
        rintro e w2 ⟨rfl, hq⟩
        have HC := Lib.hid (palt hq HF.out)
        clear hq
        go_wp2_with fail
        refine HC.out.mono ?_
        rintro e w3 ⟨rfl, hq⟩
        have HB := Lib.hid (weigh_br (br_of_step (f := f) (f' := false) (d := d) (d' := d) nextS h2 hlt (j := i + 1) (by omega) (by omega) (by omega) HN.out HS.out HF.out (fun lo g e => ⟨by unfold stepF; rw [if_pos hA]; rfl, (HS.out lo g e).2.1, fun h => (by cases h), by show lo.length ≤ _; omega, sz_next (e ▸ HF.out)⟩) hq) hs)
        clear hq
        go_wp2_with fail
        refine HB.out.mono ?_
        rintro e wz ⟨rfl, hz'⟩
        have HZ := Lib.hid hz'
        clear hz'
        go_wp2
        go_roundg gk
        case rel => exact ⟨false, rfl, HZ.out⟩
        case measure => omega
      · refine (ptake_no 124 HP1.out (by omega) hs hA).mono ?_
        rintro e w2 ⟨rfl, hq⟩
        have HP2 := Lib.hid hq
        clear hq HP1
        go_wp2_with fail
        by_cases hB : nx s.data.toList i = 40
        · refine (ptake_yes 40 HP2.out (by omega) hs hB (by omega)).mono ?_
          rintro e w3 ⟨rfl, hq⟩
          have HC := Lib.hid (pbegin hq HF.out (by omega))
          clear hq
          go_wp2_with fail
          refine HC.out.mono ?_
          rintro e w4 ⟨rfl, hq⟩
          have HB := Lib.hid (weigh_br (br_of_step (f := f) (f' := false) (d := d) (d' := d + 1) openS h2 hlt (j := i + 1) (by omega) (by omega) (by omega) HN.out HS.out HF.out (fun lo g e => ⟨by unfold stepF; rw [if_neg hA, if_pos hB]; rfl, by show d + 1 = (lo ++ [g]).length; rw [(HS.out lo g e).2.1]; simp, fun h => (by cases h), by show (lo ++ [g]).length ≤ _; simp, sz_open (e ▸ HF.out)⟩) hq) hs)
          clear hq
          go_wp2_with fail
          refine HB.out.mono ?_
          rintro e wz ⟨rfl, hz'⟩
          have HZ := Lib.hid hz'
          clear hz'
          go_wp2
          go_roundg gk
          case rel => exact ⟨false, rfl, HZ.out⟩
          case measure => omega
        · refine (ptake_no 40 HP2.out (by omega) hs hB).mono ?_
          rintro e w3 ⟨rfl, hq⟩
          have c3' := hq.cells.2.2
          have HP3 := Lib.hid hq
          clear hq HP2 c3
          by_cases hd : 0 < d
          · have hdi : (0 : Int) < (d : Int) := by omega
            by_cases hC : nx s.data.toList i = 41
            · obtain ⟨d1, rfl⟩ : ∃ d1, d = d1 + 1 := ⟨d - 1, by omega⟩
              have HT := Lib.hid (ptake_yes 41 HP3.out (by omega) hs hC (by omega))
              have hlone : ∀ lo g, st = some (lo, g) → lo ≠ [] := fun lo g e hl => by have := (HS.out lo g e).2.1; rw [hl] at this; simp at this
              have HLO := Lib.hid hlone
              generalize hdd : ((d1 + 1 : Nat) : Int) = dd at c3' hdi
              clear hlone
              go_wp2_with fail
              refine HT.out.mono ?_
              rintro e w4 ⟨rfl, hq⟩
              have HC := Lib.hid (pend hq HF.out (by omega) HLO.out)
              clear hq
              go_wp2_with fail
              refine HC.out.mono ?_
              rintro e w5 ⟨rfl, hq⟩
              have HB := Lib.hid (weigh_br (br_of_step (f := f) (f' := true) (d := d1 + 1) (d' := d1) closeS h2 hlt (j := i + 1) (by omega) (by omega) (by omega) HN.out HS.out HF.out (fun lo g e => ⟨by unfold stepF; rw [if_neg hA, if_neg hB, if_pos ⟨hC, HLO.out lo g e⟩]; rfl, by show d1 = lo.dropLast.length; rw [List.length_dropLast, ← (HS.out lo g e).2.1]; omega, fun _ => by show ((lo.getLast?.getD g0).row ++ [g.whole]) ≠ []; simp, by show lo.dropLast.length ≤ _; rw [List.length_dropLast]; omega, sz_close (e ▸ HF.out)⟩) hq) hs)
              clear hq
              go_wp2_with fail
              refine HB.out.mono ?_
              rintro e wz ⟨rfl, hz'⟩
              have HZ := Lib.hid hz'
              clear hz'
              go_wp2
              go_roundg gk
              case rel => exact ⟨true, rfl, HZ.out⟩
              case measure => omega
            · have HT := Lib.hid (ptake_no 41 HP3.out (by omega) hs hC)
              go_wp2_with fail
              refine HT.out.mono ?_
              rintro e w4 ⟨rfl, hq⟩
              have HP4 := Lib.hid hq
              clear hq HP3 c3'
              by_cases hf : f = true
              · subst hf
                have HNX := Lib.hid (pnext HP4.out (by omega) hs)
                have HI := Lib.hid (fun w' => indexByte_any REP (nx s.data.toList i) w')
                obtain ⟨ib, hib⟩ : ∃ ib, ib = Lib.indexByte REP.data.toList (nx s.data.toList i).toUInt8 := ⟨_, rfl⟩
                have hin : inS REP (nx s.data.toList i) = decide (0 ≤ ib) := by unfold inS; rw [hib]
                rw [← hib] at HI
                obtain ⟨x, hx⟩ : ∃ x, x = nx s.data.toList i := ⟨_, rfl⟩
                rw [← hx] at HNX HI
                have HIN := Lib.hid hin
                clear hib hin hx
                go_wp2_with fail
                refine HNX.out.mono ?_
                rintro e w5 ⟨rfl, hq⟩
                have HP5 := Lib.hid hq
                clear hq
                go_wp2_with fail
                refine (HI.out w5).mono ?_
                rintro e w6 ⟨rfl, rfl⟩
                by_cases hr : 0 ≤ ib
                · have hin : inS REP (nx s.data.toList i) = true := by rw [HIN.out]; exact decide_eq_true hr
                  have HC := Lib.hid (prepeat HP5.out HF.out hlt hs (fun lo g e => (HS.out lo g e).2.2 rfl))
                  have HIN2 := Lib.hid hin
                  clear hin
                  go_wp2_with fail
                  refine HC.out.mono ?_
                  rintro e w7 ⟨rfl, hq⟩
                  have HB := Lib.hid (weigh_br (br_of_step (f := true) (f' := true) (d := d) (d' := d) (repS (nx s.data.toList i)) h2 hlt (j := i + 1) (by omega) (by omega) (by omega) HN.out HS.out HF.out (fun lo g e => ⟨by unfold stepF; rw [if_neg hA, if_neg hB, if_neg (fun hh => hC hh.1), if_pos ⟨rfl, HIN2.out⟩]; rfl, (HS.out lo g e).2.1, fun _ => by show (g.row.dropLast ++ [_]) ≠ []; simp, by show lo.length ≤ _; omega, sz_rep (e ▸ HF.out) _⟩) hq) hs)
                  clear hq
                  go_wp2_with fail
                  refine HB.out.mono ?_
                  rintro e wz ⟨rfl, hz'⟩
                  have HZ := Lib.hid hz'
                  clear hz'
                  go_wp2
                  go_roundg gk
                  case rel => exact ⟨true, rfl, HZ.out⟩
                  case measure => omega
                · have hin : ¬ inS REP (nx s.data.toList i) = true := by rw [HIN.out, decide_eq_false hr]; simp
                  have HIN2 := Lib.hid hin
                  clear hin
                  have HC := Lib.hid (patom HP5.out HF.out (by omega) hs)
                  go_wp2_with fail
                  refine HC.out.mono ?_
                  rintro e w8 hat
                  rcases hat with ⟨t, j, ha, rfl, hq⟩ | ⟨ha, rfl, j, hj, hq⟩
                  · obtain ⟨aj1, aj2, _⟩ := atomF_ok ha (by omega)
                    have HAA := Lib.hid ha
                    clear ha
                    have HB := Lib.hid (weigh_br (br_of_step (f := true) (f' := true) (d := d) (d' := d) (putS (.set t)) h2 hlt (j := j) (by omega) (by omega) (by omega) HN.out HS.out HF.out (fun lo g e => ⟨by unfold stepF; rw [if_neg hA, if_neg hB, if_neg (fun hh => hC hh.1), if_neg (fun hh => HIN2.out hh.2), HAA.out]; rfl, (HS.out lo g e).2.1, fun _ => by show (g.row ++ [_]) ≠ []; simp, by show lo.length ≤ _; omega, sz_put (e ▸ HF.out) _⟩) hq) hs)
                    clear hq
                    go_wp2_with fail
                    refine HB.out.mono ?_
                    rintro e wz ⟨rfl, hz'⟩
                    have HZ := Lib.hid hz'
                    clear hz'
                    go_wp2
                    go_roundg gk
                    case rel => exact ⟨true, rfl, HZ.out⟩
                    case measure => omega
                  · have HE := Lib.hid (none_of_step hlt HN.out (fun lo g e => ⟨(HS.out lo g e).1, by unfold stepF; rw [if_neg hA, if_neg hB, if_neg (fun hh => hC hh.1), if_neg (fun hh => HIN2.out hh.2), ha]; rfl⟩))
                    have HQ := Lib.hid hq
                    clear ha hq
                    go_wp2
                    go_ret
                    exact .inr (.inr ⟨rfl, HE.out, j, d, st, HQ.out⟩)
              · have hff : f = false := by cases f <;> simp_all
                subst hff
                clear hf
                have HC := Lib.hid (patom HP4.out HF.out (by omega) hs)
                go_wp2_with fail
                refine HC.out.mono ?_
                rintro e w8 hat
                rcases hat with ⟨t, j, ha, rfl, hq⟩ | ⟨ha, rfl, j, hj, hq⟩
                · obtain ⟨aj1, aj2, _⟩ := atomF_ok ha (by omega)
                  have HAA := Lib.hid ha
                  clear ha
                  have HB := Lib.hid (weigh_br (br_of_step (f := false) (f' := true) (d := d) (d' := d) (putS (.set t)) h2 hlt (j := j) (by omega) (by omega) (by omega) HN.out HS.out HF.out (fun lo g e => ⟨by unfold stepF; rw [if_neg hA, if_neg hB, if_neg (fun hh => hC hh.1), if_neg (fun hh => (by cases hh.1)), HAA.out]; rfl, (HS.out lo g e).2.1, fun _ => by show (g.row ++ [_]) ≠ []; simp, by show lo.length ≤ _; omega, sz_put (e ▸ HF.out) _⟩) hq) hs)
                  clear hq
                  go_wp2_with fail
                  refine HB.out.mono ?_
                  rintro e wz ⟨rfl, hz'⟩
                  have HZ := Lib.hid hz'
                  clear hz'
                  go_wp2
                  go_roundg gk
                  case rel => exact ⟨true, rfl, HZ.out⟩
                  case measure => omega
                · have HE := Lib.hid (none_of_step hlt HN.out (fun lo g e => ⟨(HS.out lo g e).1, by unfold stepF; rw [if_neg hA, if_neg hB, if_neg (fun hh => hC hh.1), if_neg (fun hh => (by cases hh.1)), ha]; rfl⟩))
                  have HQ := Lib.hid hq
                  clear ha hq
                  go_wp2
                  go_ret
                  exact .inr (.inr ⟨rfl, HE.out, j, d, st, HQ.out⟩)
          · obtain rfl : d = 0 := by omega
            have c3z : w3.cell? ⟨P, 3, none⟩ = some (.int .i64 0) := c3'
            clear c3'
            by_cases hf : f = true
            · subst hf
              have HNX := Lib.hid (pnext HP3.out (by omega) hs)
              have HI := Lib.hid (fun w' => indexByte_any REP (nx s.data.toList i) w')
              obtain ⟨ib, hib⟩ : ∃ ib, ib = Lib.indexByte REP.data.toList (nx s.data.toList i).toUInt8 := ⟨_, rfl⟩
              have hin : inS REP (nx s.data.toList i) = decide (0 ≤ ib) := by unfold inS; rw [hib]
              rw [← hib] at HI
              obtain ⟨x, hx⟩ : ∃ x, x = nx s.data.toList i := ⟨_, rfl⟩
              rw [← hx] at HNX HI
              have HIN := Lib.hid hin
              clear hib hin hx
              go_wp2_with fail
              refine HNX.out.mono ?_
              rintro e w5 ⟨rfl, hq⟩
              have HP5 := Lib.hid hq
              clear hq
              go_wp2_with fail
              refine (HI.out w5).mono ?_
              rintro e w6 ⟨rfl, rfl⟩
              by_cases hr : 0 ≤ ib
              · have hin : inS REP (nx s.data.toList i) = true := by rw [HIN.out]; exact decide_eq_true hr
                have HC := Lib.hid (prepeat HP5.out HF.out hlt hs (fun lo g e => (HS.out lo g e).2.2 rfl))
                have HIN2 := Lib.hid hin
                clear hin
                go_wp2_with fail
                refine HC.out.mono ?_
                rintro e w7 ⟨rfl, hq⟩
                have HB := Lib.hid (weigh_br (br_of_step (f := true) (f' := true) (d := 0) (d' := 0) (repS (nx s.data.toList i)) h2 hlt (j := i + 1) (by omega) (by omega) (by omega) HN.out HS.out HF.out (fun lo g e => ⟨by unfold stepF; rw [if_neg hA, if_neg hB, if_neg (fun hh => by have := (HS.out lo g e).2.1; exact hh.2 (List.length_eq_zero_iff.1 (by omega))), if_pos ⟨rfl, HIN2.out⟩]; rfl, (HS.out lo g e).2.1, fun _ => by show (g.row.dropLast ++ [_]) ≠ []; simp, by show lo.length ≤ _; omega, sz_rep (e ▸ HF.out) _⟩) hq) hs)
                clear hq
                go_wp2_with fail
                refine HB.out.mono ?_
                rintro e wz ⟨rfl, hz'⟩
                have HZ := Lib.hid hz'
                clear hz'
                go_wp2
                go_roundg gk
                case rel => exact ⟨true, rfl, HZ.out⟩
                case measure => omega
              · have hin : ¬ inS REP (nx s.data.toList i) = true := by rw [HIN.out, decide_eq_false hr]; simp
                have HIN2 := Lib.hid hin
                clear hin
                have HC := Lib.hid (patom HP5.out HF.out (by omega) hs)
                go_wp2_with fail
                refine HC.out.mono ?_
                rintro e w8 hat
                rcases hat with ⟨t, j, ha, rfl, hq⟩ | ⟨ha, rfl, j, hj, hq⟩
                · obtain ⟨aj1, aj2, _⟩ := atomF_ok ha (by omega)
                  have HAA := Lib.hid ha
                  clear ha
                  have HB := Lib.hid (weigh_br (br_of_step (f := true) (f' := true) (d := 0) (d' := 0) (putS (.set t)) h2 hlt (j := j) (by omega) (by omega) (by omega) HN.out HS.out HF.out (fun lo g e => ⟨by unfold stepF; rw [if_neg hA, if_neg hB, if_neg (fun hh => by have := (HS.out lo g e).2.1; exact hh.2 (List.length_eq_zero_iff.1 (by omega))), if_neg (fun hh => HIN2.out hh.2), HAA.out]; rfl, (HS.out lo g e).2.1, fun _ => by show (g.row ++ [_]) ≠ []; simp, by show lo.length ≤ _; omega, sz_put (e ▸ HF.out) _⟩) hq) hs)
                  clear hq
                  go_wp2_with fail
                  refine HB.out.mono ?_
                  rintro e wz ⟨rfl, hz'⟩
                  have HZ := Lib.hid hz'
                  clear hz'
                  go_wp2
                  go_roundg gk
                  case rel => exact ⟨true, rfl, HZ.out⟩
                  case measure => omega
                · have HE := Lib.hid (none_of_step hlt HN.out (fun lo g e => ⟨(HS.out lo g e).1, by unfold stepF; rw [if_neg hA, if_neg hB, if_neg (fun hh => by have := (HS.out lo g e).2.1; exact hh.2 (List.length_eq_zero_iff.1 (by omega))), if_neg (fun hh => HIN2.out hh.2), ha]; rfl⟩))
                  have HQ := Lib.hid hq
                  clear ha hq
                  go_wp2
                  go_ret
                  exact .inr (.inr ⟨rfl, HE.out, j, 0, st, HQ.out⟩)
            · have hff : f = false := by cases f <;> simp_all
              subst hff
              clear hf
              have HC := Lib.hid (patom HP3.out HF.out (by omega) hs)
              go_wp2_with fail
              refine HC.out.mono ?_
              rintro e w8 hat
              rcases hat with ⟨t, j, ha, rfl, hq⟩ | ⟨ha, rfl, j, hj, hq⟩
              · obtain ⟨aj1, aj2, _⟩ := atomF_ok ha (by omega)
                have HAA := Lib.hid ha
                clear ha
                have HB := Lib.hid (weigh_br (br_of_step (f := false) (f' := true) (d := 0) (d' := 0) (putS (.set t)) h2 hlt (j := j) (by omega) (by omega) (by omega) HN.out HS.out HF.out (fun lo g e => ⟨by unfold stepF; rw [if_neg hA, if_neg hB, if_neg (fun hh => by have := (HS.out lo g e).2.1; exact hh.2 (List.length_eq_zero_iff.1 (by omega))), if_neg (fun hh => (by cases hh.1)), HAA.out]; rfl, (HS.out lo g e).2.1, fun _ => by show (g.row ++ [_]) ≠ []; simp, by show lo.length ≤ _; omega, sz_put (e ▸ HF.out) _⟩) hq) hs)
                clear hq
                go_wp2_with fail
                refine HB.out.mono ?_
                rintro e wz ⟨rfl, hz'⟩
                have HZ := Lib.hid hz'
                clear hz'
                go_wp2
                go_roundg gk
                case rel => exact ⟨true, rfl, HZ.out⟩
                case measure => omega
              · have HE := Lib.hid (none_of_step hlt HN.out (fun lo g e => ⟨(HS.out lo g e).1, by unfold stepF; rw [if_neg hA, if_neg hB, if_neg (fun hh => by have := (HS.out lo g e).2.1; exact hh.2 (List.length_eq_zero_iff.1 (by omega))), if_neg (fun hh => (by cases hh.1)), ha]; rfl⟩))
                have HQ := Lib.hid hq
                clear ha hq
                go_wp2
                go_ret
                exact .inr (.inr ⟨rfl, HE.out, j, 0, st, HQ.out⟩)
    · obtain rfl : i = s.size := by omega
      have hii : ¬ (s.size : Int) < s.size := by omega
      have hfu : 1 ≤ gk := by omega
      go_wp2_with fail
      go_quiet (fail)
      have HP1 := Lib.hid (HP0.out.below (below_drewN _ wr nq))
      generalize wr.drewN nq = w1 at HP1 ⊢
      have d3 := HP1.out.cells.2.2
      clear c0 c1 c3 hii HP0
      have hout : RdPost w0 P s (.returned (.bool ((d : Int) == 0))) w1 := read_end hfu HLen.out HP1.out HF.out HN.out HS.out
      have HOUT := Lib.hid hout
      clear hout HN HS HF HP1
      go_wp2
      go_ret
      exact HOUT.out
end Go.Proofs.Ytejdfpieblkapaa
