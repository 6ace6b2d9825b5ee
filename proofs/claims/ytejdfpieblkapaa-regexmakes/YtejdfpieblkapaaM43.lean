/- The parser's calls on its state, long or not; what is known between rounds of read. -/
import Derived.Test.YtejdfpieblkapaaM42
namespace Go.Proofs.Ytejdfpieblkapaa
open Go.RowKit Go.Shelf

section
variable {w0 w : World} {P : Nat} {s : ByteArray} {i : Nat} {d : Int} {st : Option (List Grp × Grp)}
theorem PS.cells (H : PS w0 w P s i d st) : w.cell? ⟨P, 0, none⟩ = some (.string s) ∧ w.cell? ⟨P, 1, none⟩ = some (.int .i64 i) ∧ w.cell? ⟨P, 3, none⟩ = some (.int .i64 d) := by
  obtain ⟨ov, l, h1, _⟩ := H.open'
  obtain ⟨c0, c1, _, c3, _, _⟩ := ps_cells h1
  exact ⟨c0, c1, c3⟩
theorem PS.bel (H : PS w0 w P s i d st) : Below w0.heap.size w0 w := by
  cases st with
  | none => exact H.2.2
  | some x => obtain ⟨lo, g⟩ := x; obtain ⟨G, cap, h⟩ := H; exact h.bel
theorem ptake_no (c : Nat) (H : PS w0 w P s i d st) (hi : i ≤ s.size) (hs : s.size ≤ 1000000) (hc : nx s.data.toList i ≠ c) : Calls Try.prog 37 #[ptr P, .int .u8 c] w fun e w' => e = .returned (.bool false) ∧ PS w0 w' P s i d st := by
  obtain ⟨ov, l, h1, h2⟩ := H.open'
  refine (take_no w P c s i ov d l h1 hi hs hc).mono ?_
  rintro e w' ⟨rfl, h3, h4⟩
  exact ⟨rfl, h2 w' i d (Kb.of_below _ h4) h3⟩
theorem ptake_yes (c : Nat) (H : PS w0 w P s i d st) (hi : i ≤ s.size) (hs : s.size ≤ 1000000) (hc : nx s.data.toList i = c) (hc0 : 0 < c) : Calls Try.prog 37 #[ptr P, .int .u8 c] w fun e w' => e = .returned (.bool true) ∧ PS w0 w' P s (i + 1) d st := by
  obtain ⟨ov, l, h1, h2⟩ := H.open'
  refine (take_yes w P c s i ov d l h1 hi hs hc hc0).mono ?_
  rintro e w' ⟨rfl, h3, h4⟩
  exact ⟨rfl, h2 w' (i + 1) d h4 h3⟩
theorem pnext (H : PS w0 w P s i d st) (hi : i ≤ s.size) (hs : s.size ≤ 1000000) : Calls Try.prog 42 #[ptr P] w fun e w' => e = .returned (.int .u8 (nx s.data.toList i)) ∧ PS w0 w' P s i d st := by
  obtain ⟨ov, l, h1, h2⟩ := H.open'
  refine (next_any w P s i ov d l h1 hi hs).mono ?_
  rintro e w' ⟨rfl, h3, h4⟩
  exact ⟨rfl, h2 w' i d (Kb.of_below _ h4) h3⟩
theorem PS.kb_none {w' : World} {i' : Nat} {d' : Int} (H : PS w0 w P s i d none) (hk : Kb (fun j => j = P) w w') (hp : PsB w' P s i' (.slice none 0 0) d' true) : PS w0 w' P s i' d' none := by
  obtain ⟨_, h2, h3⟩ := H
  exact ⟨hp, h2, h3.trans (hk.below h3.size (fun i he => by rw [show i = P from he]; exact h2))⟩
/-- What is read is not too much. -/
def Fit (st : Option (List Grp × Grp)) : Prop := ∀ lo g, st = some (lo, g) → lo.length ≤ 50 ∧ gsz (lo ++ [g]) ≤ 400
theorem Fit.ok {lo : List Grp} {g : Grp} (h : Fit (some (lo, g))) : lo.length ≤ 50 ∧ g.Ok ∧ g.size ≤ 400 ∧ gsz lo + g.size ≤ 400 := by
  obtain ⟨h1, h2⟩ := h lo g rfl
  rw [gsz_append, gsz_one] at h2
  have h3 : g.size = szs g.ways + szs g.row := rfl
  have h4 := szs_len g.ways
  have h5 := szs_len g.row
  exact ⟨h1, ⟨by omega, by omega, fun r hr => by have := szs_mem hr; omega, by omega⟩, by omega, by omega⟩
def nextS (x : List Grp × Grp) : List Grp × Grp := (x.1, x.2.nextWay)
def openS (x : List Grp × Grp) : List Grp × Grp := (x.1 ++ [x.2], g0)
def closeS (x : List Grp × Grp) : List Grp × Grp := (x.1.dropLast, (x.1.getLast?.getD g0).put x.2.whole)
def repS (c : Nat) (x : List Grp × Grp) : List Grp × Grp := (x.1, x.2.rep c)
theorem palt (H : PS w0 w P s i d st) (hf : Fit st) : Calls Try.prog 38 #[ptr P] w fun e w' => e = .returned (.tuple #[]) ∧ PS w0 w' P s i d (st.map nextS) := by
  cases st with
  | none =>
    refine (alt_none w P s i _ d H.1).mono ?_
    rintro e w' ⟨rfl, rfl⟩
    exact ⟨rfl, H⟩
  | some x =>
    obtain ⟨lo, g⟩ := x
    obtain ⟨G, cap, h⟩ := H
    obtain ⟨h1, h2, _, _⟩ := hf.ok
    refine (alt_some w0 w P G cap s i d lo g h h2 (by omega)).mono ?_
    rintro e w' ⟨rfl, h3⟩
    exact ⟨rfl, G, cap, h3⟩
theorem pbegin {d : Nat} (H : PS w0 w P s i d st) (hf : Fit st) (hd : d ≤ 1000000) : Calls Try.prog 39 #[ptr P] w fun e w' => e = .returned (.tuple #[]) ∧ PS w0 w' P s i ((d + 1 : Nat) : Int) (st.map openS) := by
  cases st with
  | none =>
    refine (begin_none w P s i _ d H.1 hd).mono ?_
    rintro e w' ⟨rfl, h1, h2⟩
    exact ⟨rfl, H.kb_none h2 h1⟩
  | some x =>
    obtain ⟨lo, g⟩ := x
    obtain ⟨G, cap, h⟩ := H
    obtain ⟨h1, h2, _, _⟩ := hf.ok
    refine (begin_pi w0 w P G cap s i d (lo ++ [g]) h (by simp; omega) hd).mono ?_
    rintro e w' ⟨rfl, G', cap', h3⟩
    exact ⟨rfl, G', cap', h3⟩
theorem pend {d : Nat} (H : PS w0 w P s i ((d + 1 : Nat) : Int) st) (hf : Fit st) (hd : d ≤ 1000000) (hne : ∀ lo g, st = some (lo, g) → lo ≠ []) : Calls Try.prog 40 #[ptr P] w fun e w' => e = .returned (.tuple #[]) ∧ PS w0 w' P s i d (st.map closeS) := by
  cases st with
  | none =>
    refine (end_none w P s i _ d H.1 hd).mono ?_
    rintro e w' ⟨rfl, h1, h2⟩
    exact ⟨rfl, H.kb_none h2 h1⟩
  | some x =>
    obtain ⟨lo, g⟩ := x
    obtain ⟨G, cap, h⟩ := H
    obtain ⟨h1, h2, _, h4⟩ := hf.ok
    rcases List.eq_nil_or_concat lo with e | ⟨lo, b, rfl⟩
    · exact absurd e (hne lo g rfl)
    · rw [List.concat_eq_append] at *
      have hb : b.row.length ≤ 1000 := by
        have := szs_len b.row
        have h5 : b.size = szs b.ways + szs b.row := rfl
        rw [gsz_append, gsz_one] at h4
        omega
      refine (end_some w0 w P G cap s i d lo b g h h2 (by simp at h1; omega) hd hb).mono ?_
      rintro e w' ⟨rfl, h3⟩
      refine ⟨rfl, G, cap, ?_⟩
      have e1 : closeS (lo ++ [b], g) = (lo, b.put g.whole) := by unfold closeS; simp
      show PI w0 w' P G cap s i d ((closeS (lo ++ [b], g)).1 ++ [(closeS (lo ++ [b], g)).2])
      rw [e1]; exact h3
theorem prepeat (H : PS w0 w P s i d st) (hf : Fit st) (hi : i < s.size) (hs : s.size ≤ 1000000) (hne : ∀ lo g, st = some (lo, g) → g.row ≠ []) : Calls Try.prog 43 #[ptr P] w fun e w' => e = .returned (.tuple #[]) ∧ PS w0 w' P s (i + 1) d (st.map (repS (nx s.data.toList i))) := by
  cases st with
  | none =>
    refine (repeat_none w P s i _ d H.1 hi hs).mono ?_
    rintro e w' ⟨rfl, h1, h2⟩
    exact ⟨rfl, H.kb_none h2 h1⟩
  | some x =>
    obtain ⟨lo, g⟩ := x
    obtain ⟨G, cap, h⟩ := H
    obtain ⟨h1, h2, _, h4⟩ := hf.ok
    rcases List.eq_nil_or_concat g.row with e | ⟨rs, z, hz⟩
    · exact absurd e (hne lo g rfl)
    · rw [List.concat_eq_append] at hz
      refine (repeat_some w0 w P G cap s i d lo g rs z hz h h2 (by omega) hi hs).mono ?_
      rintro e w' ⟨rfl, h3⟩
      exact ⟨rfl, G, cap, h3⟩
theorem patom (H : PS w0 w P s i d st) (hf : Fit st) (hi : i ≤ s.size) (hs : s.size ≤ 1000000) : Calls Try.prog 44 #[ptr P] w (AtTo w0 P s i d st) := atom_any w0 w P s i d st H (fun lo g e => by
  subst e
  obtain ⟨h1, h2, _, _⟩ := hf.ok
  have := h2.row
  omega) hi hs
end

/-- Where a factor stands just ahead, there is one. -/
def RowNe (f : Bool) (g : Grp) : Prop := f = true → g.row ≠ []
/-- Between rounds: what is still to be read tells what the parser answers. -/
def RdS (w0 : World) (P : Nat) (s : ByteArray) (k : Nat) (f : Bool) (wr : World) : Prop :=
  ∃ (i d : Nat) (st : Option (List Grp × Grp)), i ≤ s.size ∧ s.size + 1 ≤ k + i ∧ d ≤ i ∧ PS w0 wr P s i d st ∧ Fit st ∧
    (st = none → parseF s.data.toList = none) ∧ (∀ lo g, st = some (lo, g) → parseF s.data.toList = runF s.data.toList k i lo g f ∧ d = lo.length ∧ RowNe f g)
/-- Ahead of weigh. -/
def BrS (w0 : World) (P : Nat) (s : ByteArray) (k : Nat) (f : Bool) (wr : World) : Prop :=
  ∃ (i d : Nat) (st : Option (List Grp × Grp)), i ≤ s.size ∧ s.size + 1 ≤ k + i ∧ d ≤ i ∧ PS w0 wr P s i d st ∧
    (st = none → parseF s.data.toList = none) ∧ (∀ lo g, st = some (lo, g) → parseF s.data.toList = (if heavy lo g = true then none else runF s.data.toList k i lo g f) ∧ d = lo.length ∧ RowNe f g ∧ lo.length ≤ 51 ∧ gsz (lo ++ [g]) ≤ 100000)
theorem weigh_br {w0 w : World} {P : Nat} {s : ByteArray} {k : Nat} {f : Bool} (H : BrS w0 P s k f w) (hs : s.size ≤ 1000000) : Calls Try.prog 45 #[ptr P] w fun e w' => e = .returned (.tuple #[]) ∧ RdS w0 P s k f w' := by
  obtain ⟨i, d, st, h1, h2, h3, h4, h5, h6⟩ := H
  cases st with
  | none =>
    refine (weigh_none w P s i d h4.1 (by omega)).mono ?_
    rintro e w' ⟨rfl, h7, h8⟩
    exact ⟨rfl, i, d, none, h1, h2, h3, h4.kb_none h8 h7, fun _ _ e => (by cases e), h5, fun _ _ e => (by cases e)⟩
  | some x =>
    obtain ⟨lo, g⟩ := x
    obtain ⟨a1, a2, a3, a4, a5⟩ := h6 lo g rfl
    obtain ⟨G, cap, h⟩ := h4
    refine (weigh_some w0 w P G cap s i d (lo ++ [g]) h a5 (by simp; omega) (by omega)).mono ?_
    rintro e w' ⟨rfl, h7, h8⟩
    refine ⟨rfl, ?_⟩
    by_cases hh : 400 < gsz (lo ++ [g]) ∨ 50 < d
    · obtain ⟨h9, h10⟩ := h7 hh
      have hhv : heavy lo g = true := by unfold heavy; rw [← a2]; exact decide_eq_true hh
      rw [if_pos hhv] at a1
      have hPw : w0.heap.size ≤ P := by
        obtain ⟨ρ, vs, X, _⟩ := h
        exact X.low P (by rw [X.rP]; omega)
      exact ⟨i, d, none, h1, h2, h3, ⟨h9, hPw, h.bel.trans (h10.below h.bel.size (fun i he => by rw [show i = P from he]; exact hPw))⟩, fun _ _ e => (by cases e), fun _ => a1, fun _ _ e => (by cases e)⟩
    · rw [h8 hh]
      have hhv : ¬ heavy lo g = true := by unfold heavy; rw [← a2]; intro e; exact hh (of_decide_eq_true e)
      rw [if_neg hhv] at a1
      refine ⟨i, d, some (lo, g), h1, h2, h3, ⟨G, cap, h⟩, fun lo' g' e => ?_, fun e => (by cases e), fun lo' g' e => ?_⟩
      · injection e with e; injection e with e1 e2; subst e1; subst e2; omega
      · injection e with e; injection e with e1 e2; subst e1; subst e2; exact ⟨a1, a2, a3⟩
/-- A step was done. -/
theorem br_of_step {w0 w : World} {P : Nat} {s : ByteArray} {k i j d d' : Nat} {f f' : Bool} {st : Option (List Grp × Grp)} (F : List Grp × Grp → List Grp × Grp) (hk : s.size + 1 ≤ k + 1 + i) (hi : i < s.size) (hij : i < j) (hj : j ≤ s.size) (hd : d' ≤ j) (hst0 : st = none → parseF s.data.toList = none) (hst : ∀ lo g, st = some (lo, g) → parseF s.data.toList = runF s.data.toList (k + 1) i lo g f ∧ d = lo.length ∧ RowNe f g) (hf : Fit st)
    (hF : ∀ lo g, st = some (lo, g) → stepF s.data.toList i lo g f = some (j, (F (lo, g)).1, (F (lo, g)).2, f') ∧ d' = (F (lo, g)).1.length ∧ RowNe f' (F (lo, g)).2 ∧ (F (lo, g)).1.length ≤ lo.length + 1 ∧ gsz ((F (lo, g)).1 ++ [(F (lo, g)).2]) ≤ 100000)
    (H : PS w0 w P s j d' (st.map F)) : BrS w0 P s k f' w := by
  refine ⟨j, d', st.map F, hj, by omega, hd, H, fun e => hst0 (by cases st with | none => rfl | some x => simp at e), fun lo g e => ?_⟩
  cases st with
  | none => simp at e
  | some x =>
    obtain ⟨lo1, g1⟩ := x
    have e' : F (lo1, g1) = (lo, g) := by simpa using e
    obtain ⟨b1, b2, b3, b4, b5⟩ := hF lo1 g1 rfl
    obtain ⟨c1, c2, c3⟩ := hst lo1 g1 rfl
    rw [e'] at b1 b2 b3 b4 b5
    dsimp only at b1 b2 b3 b4 b5
    obtain ⟨d1, _⟩ := hf lo1 g1 rfl
    refine ⟨?_, b2, b3, by omega, b5⟩
    rw [c1]
    simp only [runF]
    rw [if_pos (by rw [← Lib.size_eq]; exact hi), b1]
end Go.Proofs.Ytejdfpieblkapaa
