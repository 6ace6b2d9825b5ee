/- Whether an expression means a text, reckoned; the document's example. -/
import Derived.Test.YtejdfpieblkapaaM45
import Derived.Test.YtejdfpieblkapaaM12
namespace Go.Proofs.Ytejdfpieblkapaa
open Go.RowKit Go.Shelf

/-- What is left of an expression behind a byte. -/
def Rx.dv (c : UInt8) : Rx → Rx
  | .set s => if s.has c = true then .empty else Rx.none'
  | .empty => Rx.none'
  | .cat a b => if a.nul = true then .or (.cat (a.dv c) b) (b.dv c) else .cat (a.dv c) b
  | .or a b => .or (a.dv c) (b.dv c)
  | .star a => .cat (a.dv c) (.star a)
theorem none_L (u : List UInt8) : ¬ Rx.none'.L u := by
  rintro ⟨c, _, hc⟩
  have h : Ws.hasN ⟨0, 0, 0, 0⟩ c.toNat = true := hc
  unfold Ws.hasN Ws.word at h
  split at h <;> simp at h
theorem Rx.nul_iff : ∀ r : Rx, r.nul = true ↔ r.L []
  | .set s => ⟨fun h => by simp [Rx.nul] at h, fun ⟨c, h, _⟩ => by simp at h⟩
  | .empty => ⟨fun _ => rfl, fun _ => rfl⟩
  | .cat a b => by
    show (a.nul && b.nul) = true ↔ ∃ x y, [] = x ++ y ∧ a.L x ∧ b.L y
    rw [Bool.and_eq_true, a.nul_iff, b.nul_iff]
    refine ⟨fun h => ⟨[], [], rfl, h.1, h.2⟩, fun ⟨x, y, h, h1, h2⟩ => ?_⟩
    have h' := List.append_eq_nil_iff.1 h.symm
    rw [h'.1] at h1; rw [h'.2] at h2
    exact ⟨h1, h2⟩
  | .or a b => by
    show (a.nul || b.nul) = true ↔ a.L [] ∨ b.L []
    rw [Bool.or_eq_true, a.nul_iff, b.nul_iff]
  | .star a => ⟨fun _ => Many.nil, fun _ => rfl⟩
theorem many_cons {P : List UInt8 → Prop} {c : UInt8} {u : List UInt8} : Many P (c :: u) ↔ ∃ x y, u = x ++ y ∧ P (c :: x) ∧ Many P y := by
  constructor
  · intro h
    generalize hv : c :: u = v at h
    induction h with
    | nil => cases hv
    | cons x y hx hy ih =>
      cases x with
      | nil => exact ih hv
      | cons d x =>
        injection hv with e1 e2
        subst e1
        exact ⟨x, y, e2, hx, hy⟩
  · rintro ⟨x, y, rfl, h1, h2⟩
    exact Many.cons (c :: x) y h1 h2
theorem Rx.dv_iff (c : UInt8) : ∀ (r : Rx) (u : List UInt8), (r.dv c).L u ↔ r.L (c :: u)
  | .set s, u => by
    show (if s.has c = true then Rx.empty else Rx.none').L u ↔ _
    split
    · rename_i h
      refine ⟨fun (hu : u = []) => ⟨c, by rw [hu], h⟩, fun ⟨d, hd, _⟩ => ?_⟩
      injection hd
    · rename_i h
      refine ⟨fun hu => absurd hu (none_L u), fun ⟨d, hd, hs⟩ => ?_⟩
      injection hd with e1 e2
      rw [← e1] at hs
      exact absurd hs h
  | .empty, u => ⟨fun hu => absurd hu (none_L u), fun h => by cases h⟩
  | .cat a b, u => by
    have key : (∃ x y, u = x ++ y ∧ (a.dv c).L x ∧ b.L y) ↔ ∃ x y, u = x ++ y ∧ a.L (c :: x) ∧ b.L y := by simp only [a.dv_iff c]
    have h2 : (Rx.cat a b).L (c :: u) ↔ (a.L [] ∧ b.L (c :: u)) ∨ ∃ x y, u = x ++ y ∧ a.L (c :: x) ∧ b.L y := by
      constructor
      · rintro ⟨x, y, h, h1, h2⟩
        cases x with
        | nil => exact .inl ⟨h1, by rw [h]; exact h2⟩
        | cons d x =>
          injection h with e1 e2
          subst e1
          exact .inr ⟨x, y, e2, h1, h2⟩
      · rintro (⟨h1, h2⟩ | ⟨x, y, rfl, h1, h2⟩)
        · exact ⟨[], _, rfl, h1, h2⟩
        · exact ⟨c :: x, y, rfl, h1, h2⟩
    rw [h2]
    show (if a.nul = true then Rx.or (.cat (a.dv c) b) (b.dv c) else .cat (a.dv c) b).L u ↔ _
    split
    · rename_i h
      show ((∃ x y, u = x ++ y ∧ (a.dv c).L x ∧ b.L y) ∨ (b.dv c).L u) ↔ _
      rw [key, b.dv_iff c]
      have := a.nul_iff.1 h
      constructor
      · rintro (h | h)
        · exact .inr h
        · exact .inl ⟨this, h⟩
      · rintro (h | h)
        · exact .inr h.2
        · exact .inl h
    · rename_i h
      show (∃ x y, u = x ++ y ∧ (a.dv c).L x ∧ b.L y) ↔ _
      rw [key]
      refine ⟨.inr, fun h' => h'.elim (fun h' => absurd (a.nul_iff.2 h'.1) h) id⟩
  | .or a b, u => by
    show (a.dv c).L u ∨ (b.dv c).L u ↔ a.L (c :: u) ∨ b.L (c :: u)
    rw [a.dv_iff c, b.dv_iff c]
  | .star a, u => by
    show (∃ x y, u = x ++ y ∧ (a.dv c).L x ∧ Many a.L y) ↔ Many a.L (c :: u)
    rw [many_cons]
    simp only [a.dv_iff c]
/-- Whether an expression means a text. -/
def Rx.mt : Rx → List UInt8 → Bool
  | r, [] => r.nul
  | r, c :: u => (r.dv c).mt u
theorem Rx.mt_iff (r : Rx) (u : List UInt8) : r.mt u = true ↔ r.L u := by
  induction u generalizing r with
  | nil => exact r.nul_iff
  | cons c u ih =>
    show (r.dv c).mt u = true ↔ _
    rw [ih, Rx.dv_iff]
theorem mt_eq {r : Rx} {u : List UInt8} {b : Bool} (h : b = true ↔ r.L u) : b = r.mt u := by
  rw [Bool.eq_iff_iff, h, Rx.mt_iff]
/-- What a call that only makes memory answers. -/
def Ans (v : Value) (w : World) (e : Ending) (w' : World) : Prop := e = .returned v ∧ Below w.heap.size w w'
theorem matches_mt (w : World) (r : Rx) (nb : Nat) (s : ByteArray) (hn : NdAt w r nb) (hsz : r.size ≤ 16384) (hs : s.size ≤ 800000) :
    Calls Try.prog 10 #[ptr nb, .string s] w (Ans (.bool (r.mt s.data.toList)) w) := by
  refine (matches_any w r nb s hn hsz hs).mono ?_
  rintro e w' ⟨⟨b, rfl, hb⟩, h2⟩
  rw [mt_eq hb]
  exact ⟨rfl, h2⟩

def awS : Rx := .set ⟨0, 60129542144, 0, 0⟩
def awX : Rx := .set ⟨0, 72057594037927936, 0, 0⟩
def awR : Rx := .cat (.cat awS (.star awS)) (.or awX .empty)
theorem aw_parse : parseF [91, 97, 45, 99, 93, 43, 120, 63] = some awR := by kernel_rfl
set_option maxRecDepth 100000 in
set_option maxHeartbeats 1000000 in
theorem awake_any (w : World) : Calls Try.prog 7 #[] w (Ans (.bool true) w) := by
  have HP := Lib.hid (parse_any ⟨#[91, 97, 45, 99, 93, 43, 120, 63]⟩ w (by decide))
  go_enter Try.func7, Try.ntmps7
  go_wp2_with fail
  refine HP.out.mono ?_
  rintro e w1 ⟨hb1, hq⟩
  rcases hq with ⟨r, nb, hr, hz, rfl, hn⟩ | ⟨hr, _⟩
  · rw [show parseF _ = some awR from aw_parse] at hr
    injection hr with hr
    subst hr
    have HM := Lib.hid (matches_mt w1 awR nb ⟨#[97, 98, 99, 120]⟩ hn (by decide) (by decide))
    rw [show awR.mt _ = true from by kernel_rfl] at HM
    have HB1 := Lib.hid hb1; have HN := Lib.hid hn
    clear hb1 hn hz
    go_wp2_with fail
    refine HM.out.mono ?_
    rintro e w2 ⟨rfl, hb2⟩
    have HM2 := Lib.hid (matches_mt w2 awR nb ⟨#[120]⟩ (HN.out.keep (KN.of_below hb2)) (by decide) (by decide))
    rw [show awR.mt _ = false from by kernel_rfl] at HM2
    have HB2 := Lib.hid (below_tr HB1.out hb2 HB1.out.size)
    clear hb2
    go_wp2_with fail
    refine HM2.out.mono ?_
    rintro e w3 ⟨rfl, hb3⟩
    have HB3 := Lib.hid (below_tr HB2.out hb3 HB2.out.size)
    clear hb3
    go_wp2
    go_ret
    exact ⟨rfl, HB3.out⟩
  · rw [show parseF _ = some awR from aw_parse] at hr
    cases hr
end Go.Proofs.Ytejdfpieblkapaa
