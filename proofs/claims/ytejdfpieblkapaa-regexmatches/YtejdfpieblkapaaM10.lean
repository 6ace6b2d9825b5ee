/- begin and end, each in one. -/
import Derived.Test.YtejdfpieblkapaaM8
import Derived.Test.YtejdfpieblkapaaM9
namespace Go.Proofs.Ytejdfpieblkapaa
open Go.RowKit

/-- What a begun spot begins, ends, and waits for a byte with. -/
def begB : Rx → Path → List Path
  | .cat _ _, p => [0 :: p]
  | .or _ _, p => [0 :: p, 1 :: p]
  | .star _, p => [0 :: p]
  | .set _, _ => []
  | .empty, _ => []
def begE : Rx → Path → List Path
  | .empty, p => [p]
  | .star _, p => [p]
  | .cat _ _, _ => []
  | .or _ _, _ => []
  | .set _, _ => []
def begS : Rx → Path → List Path
  | .set _, p => [p]
  | .empty, _ => []
  | .star _, _ => []
  | .cat _ _, _ => []
  | .or _ _, _ => []
/-- What an ended part number k begins and ends in the spot above it. -/
def endB : Rx → Nat → Path → List Path
  | .cat _ _, 0, p => [1 :: p]
  | .star _, _, p => [p]
  | _, _, _ => []
def endE : Rx → Nat → Path → List Path
  | .cat _ _, 0, _ => []
  | .cat _ _, _ + 1, p => [p]
  | .or _ _, _, p => [p]
  | _, _, _ => []

def On (g : Gh) (l : List Nat) (ps : List Path) : Prop := l.map some = ps.map g.σ

def StepTo (r : Rx) (g : Gh) (root base R τ : Nat) (Bl El Sl : List Nat) (B E S : List Path) (w : World) (e : Ending) (w' : World) : Prop :=
  e = .returned (.tuple #[]) ∧ ∃ bv ev sv g' NB NE NS, RnAt w' base R τ bv ev sv (Bl ++ NB) (El ++ NE) (Sl ++ NS) ∧ SpAt w' r g' root ∧ Fr base w w' ∧ Gg g g' ∧ On g' NB B ∧ On g' NE E ∧ On g' NS S

theorem Gg.refl (g : Gh) : Gg g g := ⟨rfl, rfl, fun _ _ h => h⟩

theorem begin_any (w : World) (r : Rx) (g : Gh) (root base R τ b : Nat) (p : Path) (e : Rx) (bv ev sv : Value) (Bl El Sl : List Nat) (hs : SpAt w r g root) (hr : RnAt w base R τ bv ev sv Bl El Sl) (hb : g.σ p = some b) (he : r.at p = some e) (hbase : base ≤ w.heap.size) (hbR : base ≤ R) (hroot : base ≤ root) (hlb : Bl.length ≤ 1048576) (hle : El.length ≤ 1048576) (hls : Sl.length ≤ 1048576) :
    Calls Try.prog 52 #[ptr R, ptr b] w (StepTo r g root base R τ Bl El Sl (begB e p) (begE e p) (begS e p) w) := by
  have hbb : base ≤ b := Nat.le_trans hroot (hs.low p b root hs.root hb)
  cases e with
  | set s =>
    refine (begin_set w r g root base R τ b p s bv ev sv Bl El Sl hs hr hb he hbase hbR hls).mono ?_
    rintro e w' ⟨h, v', h1, h2, h3⟩
    exact ⟨h, _, _, _, g, [], [], [b], by simpa using h1, h2, h3, Gg.refl g, rfl, rfl, by simp [On, begS, hb]⟩
  | empty =>
    refine (begin_empty w r g root base R τ b p bv ev sv Bl El Sl hs hr hb he hbase hbR hle).mono ?_
    rintro e w' ⟨h, v', h1, h2, h3⟩
    exact ⟨h, _, _, _, g, [], [b], [], by simpa using h1, h2, h3, Gg.refl g, rfl, by simp [On, begE, hb], rfl⟩
  | cat x y =>
    refine (begin_cat w r g root base R τ b p x y bv ev sv Bl El Sl hs hr hb he hbase hbR hbb hlb).mono ?_
    rintro e w' ⟨h, v', b', g', h1, h2, h3, h4, h5, _⟩
    exact ⟨h, _, _, _, g', [b'], [], [], by simpa using h1, h2, h3, h4, by simp [On, begB, h5], rfl, rfl⟩
  | or x y =>
    refine (begin_or w r g root base R τ b p x y bv ev sv Bl El Sl hs hr hb he hbase hbR hbb hlb).mono ?_
    rintro e w' ⟨h, v', b0, b1, g', h1, h2, h3, h4, h5, h6, _⟩
    exact ⟨h, _, _, _, g', [b0, b1], [], [], by simpa using h1, h2, h3, h4, by simp [On, begB, h5, h6], rfl, rfl⟩
  | star x =>
    refine (begin_star w r g root base R τ b p x bv ev sv Bl El Sl hs hr hb he hbase hbR hbb hlb hle).mono ?_
    rintro e w' ⟨h, v', u', b', g', h1, h2, h3, h4, h5, _⟩
    exact ⟨h, _, _, _, g', [b'], [b], [], by simpa using h1, h2, h3, h4, by simp [On, begB, h5], by simp [On, begE, h4.old _ _ hb], rfl⟩

theorem end_top (w : World) (r : Rx) (g : Gh) (root base R τ : Nat) (bv ev sv : Value) (Bl El Sl : List Nat) (hs : SpAt w r g root) (hr : RnAt w base R τ bv ev sv Bl El Sl) (hbase : base ≤ w.heap.size) (hbR : base ≤ R) :
    Calls Try.prog 51 #[ptr R, ptr root] w (StepTo r g root base R τ Bl El Sl [] [] [] w) := by
  refine (end_root w r g root base R τ bv ev sv Bl El Sl hs hr hbase hbR).mono ?_
  rintro e w' ⟨h, h1, h2, h3⟩
  exact ⟨h, _, _, _, g, [], [], [], by simpa using h1, h2, h3, Gg.refl g, rfl, rfl, rfl⟩

theorem end_part (w : World) (r : Rx) (g : Gh) (root base R τ b k : Nat) (p : Path) (e : Rx) (bv ev sv : Value) (Bl El Sl : List Nat) (hs : SpAt w r g root) (hr : RnAt w base R τ bv ev sv Bl El Sl) (hb : g.σ (k :: p) = some b) (he : r.at p = some e) (hk : k < 2) (hbase : base ≤ w.heap.size) (hbR : base ≤ R) (hroot : base ≤ root) (hlb : Bl.length ≤ 1048576) (hle : El.length ≤ 1048576) :
    Calls Try.prog 51 #[ptr R, ptr b] w (StepTo r g root base R τ Bl El Sl (endB e k p) (endE e k p) [] w) := by
  obtain ⟨bu, hbu⟩ := hs.par _ _ _ hb
  have hbb : base ≤ bu := Nat.le_trans hroot (hs.low p bu root hs.root hbu)
  obtain ⟨e0, _, he0, _, _⟩ := hs.at' _ _ hb
  rw [Rx.at_cons, he] at he0
  cases e with
  | set s => cases he0
  | empty => cases he0
  | cat x y =>
    rcases (show k = 0 ∨ k = 1 by omega) with rfl | rfl
    · refine (end_cat0 w r g root base R τ b bu p x y bv ev sv Bl El Sl hs hr hb hbu he hbase hbR hbb hlb).mono ?_
      rintro e w' ⟨h, v', b', g', h1, h2, h3, h4, h5, _⟩
      exact ⟨h, _, _, _, g', [b'], [], [], by simpa using h1, h2, h3, h4, by simp [On, endB, h5], rfl, rfl⟩
    · refine (end_cat1 w r g root base R τ b bu 1 p x y bv ev sv Bl El Sl hs hr hb hbu he rfl hbase hbR hle).mono ?_
      rintro e w' ⟨h, v', h1, h2, h3⟩
      exact ⟨h, _, _, _, g, [], [bu], [], by simpa using h1, h2, h3, Gg.refl g, rfl, by simp [On, endE, hbu], rfl⟩
  | or x y =>
    refine (end_or w r g root base R τ b bu k p x y bv ev sv Bl El Sl hs hr hb hbu he hbase hbR hle).mono ?_
    rintro e w' ⟨h, v', h1, h2, h3⟩
    exact ⟨h, _, _, _, g, [], [bu], [], by simpa using h1, h2, h3, Gg.refl g, rfl, by simp [On, endE, hbu], rfl⟩
  | star x =>
    refine (end_star w r g root base R τ b bu k p x bv ev sv Bl El Sl hs hr hb hbu he hbase hbR hlb).mono ?_
    rintro e w' ⟨h, v', h1, h2, h3⟩
    exact ⟨h, _, _, _, g, [bu], [], [], by simpa using h1, h2, h3, Gg.refl g, by simp [On, endB, hbu], rfl, rfl⟩
end Go.Proofs.Ytejdfpieblkapaa
