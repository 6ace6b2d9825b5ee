/- Rows of expressions, one by one; the positions that a text leads to: mathematics. -/
import Derived.Test.YtejdfpieblkapaaGreatDoorG33
namespace Go.Proofs.YtejdfpieblkapaaGreatDoor
open Go.RowKit Go.Shelf

theorem cntS_at {rs : List Rx} {i : Nat} {r : Rx} (h : rs[i]? = some r) : cntS (rs.take i) + r.cnt ≤ cntS rs := by
  rw [← cntS_take h]; exact cntS_take_le rs _
theorem fstS_at {rs : List Rx} : ∀ {i n : Nat} {r : Rx}, rs[i]? = some r → (fstS rs n)[i]? = some (r.fst (n + cntS (rs.take i))) := by
  induction rs with
  | nil => intro i n r h; simp at h
  | cons a rs ih =>
    intro i n r h
    cases i with
    | zero => simp at h; subst h; simp [fstS, cntS]
    | succ i =>
      simp only [List.getElem?_cons_succ] at h
      simp only [fstS, List.getElem?_cons_succ, List.take_succ_cons]
      rw [ih h, cntS_cons, Nat.add_assoc]
theorem lstS_at {rs : List Rx} : ∀ {i n : Nat} {r : Rx}, rs[i]? = some r → (lstS rs n)[i]? = some (r.lst (n + cntS (rs.take i))) := by
  induction rs with
  | nil => intro i n r h; simp at h
  | cons a rs ih =>
    intro i n r h
    cases i with
    | zero => simp at h; subst h; simp [lstS, cntS]
    | succ i =>
      simp only [List.getElem?_cons_succ] at h
      simp only [lstS, List.getElem?_cons_succ, List.take_succ_cons]
      rw [ih h, cntS_cons, Nat.add_assoc]
theorem stsS_at {rs : List Rx} : ∀ {i j : Nat} {r : Rx} {s : Ws}, rs[i]? = some r → r.sts[j]? = some s → (stsS rs)[cntS (rs.take i) + j]? = some s := by
  induction rs with
  | nil => intro i j r s h; simp at h
  | cons a rs ih =>
    intro i j r s h hs
    cases i with
    | zero =>
      simp at h; subst h
      have h0 : cntS ((a :: rs).take 0) + j = j := by simp [cntS]
      rw [h0]
      simp only [stsS, List.flatMap_cons]
      rw [List.getElem?_append_left (List.getElem?_eq_some_iff.1 hs).1]
      exact hs
    | succ i =>
      simp only [List.getElem?_cons_succ] at h
      rw [List.take_succ_cons, cntS_cons]
      have := ih h hs
      simp only [stsS, List.flatMap_cons] at this ⊢
      rw [List.getElem?_append_right (by rw [a.sts_len]; omega), a.sts_len, show a.cnt + cntS (rs.take i) + j - a.cnt = cntS (rs.take i) + j by omega]
      exact this
theorem folS_low : ∀ {rs : List Rx} {n x y : Nat}, folS rs n x y = true → n ≤ x ∧ n ≤ y
  | [], n, x, y, h => by simp [folS] at h
  | r :: rs, n, x, y, h => by
    simp only [folS, Bool.or_eq_true] at h
    rcases h with h | h
    · have := r.fol_up n x y h; omega
    · have := folS_low h; omega
theorem folS_at {rs : List Rx} : ∀ {i n : Nat} {r : Rx} {x y : Nat}, rs[i]? = some r → n + cntS (rs.take i) ≤ x → x < n + cntS (rs.take i) + r.cnt → (folS rs n x y = true ↔ r.fol (n + cntS (rs.take i)) x y = true) := by
  induction rs with
  | nil => intro i n r x y h; simp at h
  | cons a rs ih =>
    intro i n r x y h h1 h2
    cases i with
    | zero =>
      simp at h; subst h
      have h0 : n + cntS ((a :: rs).take 0) = n := by simp [cntS]
      rw [h0] at h1 h2 ⊢
      simp only [folS, Bool.or_eq_true]
      constructor
      · rintro (h | h)
        · exact h
        · have := folS_low h; omega
      · exact .inl
    | succ i =>
      simp only [List.getElem?_cons_succ] at h
      rw [List.take_succ_cons, cntS_cons, ← Nat.add_assoc] at h1 h2 ⊢
      simp only [folS, Bool.or_eq_true]
      rw [← ih h h1 h2]
      constructor
      · rintro (h | h)
        · have := a.fol_up n x y h; omega
        · exact h
      · exact .inr
/-- Whose a position is. -/
theorem whose {rs : List Rx} : ∀ {p : Nat}, p < cntS rs → ∃ i r, rs[i]? = some r ∧ cntS (rs.take i) ≤ p ∧ p < cntS (rs.take i) + r.cnt := by
  induction rs with
  | nil => intro p h; simp [cntS] at h
  | cons a rs ih =>
    intro p h
    rw [cntS_cons] at h
    by_cases hp : p < a.cnt
    · exact ⟨0, a, rfl, by simp [cntS], by simp [cntS]; exact hp⟩
    · obtain ⟨i, r, h1, h2, h3⟩ := ih (p := p - a.cnt) (by omega)
      refine ⟨i + 1, r, h1, ?_, ?_⟩ <;> rw [List.take_succ_cons, cntS_cons] <;> omega
theorem rlS_at {rs : List Rx} : ∀ {i k p : Nat} {r : Rx}, rs[i]? = some r → cntS (rs.take i) ≤ p → p < cntS (rs.take i) + r.cnt → (rlS rs k)[p]? = some (k + i) := by
  induction rs with
  | nil => intro i k p r h; simp at h
  | cons a rs ih =>
    intro i k p r h h1 h2
    cases i with
    | zero =>
      simp at h; subst h
      have h0 : cntS ((a :: rs).take 0) = 0 := by simp [cntS]
      rw [h0] at h1 h2
      simp only [rlS]
      rw [List.getElem?_append_left (by simp; omega), List.getElem?_replicate, if_pos (by omega)]; rfl
    | succ i =>
      simp only [List.getElem?_cons_succ] at h
      rw [List.take_succ_cons, cntS_cons] at h1 h2
      simp only [rlS]
      rw [List.getElem?_append_right (by simp; omega), List.length_replicate, ih (k := k + 1) h (by omega) (by omega)]
      congr 1; omega
/-- Is a byte in a position's set? -/
def hsS (rs : List Rx) (p : Nat) (c : UInt8) : Bool := match (stsS rs)[p]? with
  | some s => s.has c
  | none => false
theorem lab_at {rs : List Rx} {i : Nat} {r : Rx} (h : rs[i]? = some r) : Lab r (cntS (rs.take i)) (hsS rs) := fun j s hj c => by
  unfold hsS; rw [stsS_at h hj]
/-- Where one may be ahead of all bytes. -/
def FsS (rs : List Rx) (p : Nat) : Prop := ∃ (i : Nat) (l : List Nat), (fstS rs 0)[i]? = some l ∧ p ∈ l
/-- Where the last byte of a text may have been read. -/
def RcS (rs : List Rx) (u : List UInt8) (q : Nat) : Prop := ∃ c v p, u = c :: v ∧ FsS rs p ∧ hsS rs p c = true ∧ Wk (folS rs 0) (hsS rs) p v q

theorem Wk.unsnoc {f : Nat → Nat → Bool} {hs : Nat → UInt8 → Bool} : ∀ {u : List UInt8} {p t : Nat} {c : UInt8}, Wk f hs p (u ++ [c]) t → ∃ q, Wk f hs p u q ∧ f q t = true ∧ hs t c = true
  | [], p, t, c, h => by
    cases h with
    | cons _ q _ _ _ h1 h2 h3 =>
      cases h3 with
      | nil => exact ⟨p, .nil p, h1, h2⟩
  | a :: u, p, t, c, h => by
    cases h with
    | cons _ q _ _ _ h1 h2 h3 =>
      obtain ⟨x, h4, h5⟩ := Wk.unsnoc h3
      exact ⟨x, .cons p q x a u h1 h2 h4, h5⟩
theorem RcS.one (rs : List Rx) (c : UInt8) (q : Nat) : RcS rs [c] q ↔ FsS rs q ∧ hsS rs q c = true := by
  constructor
  · rintro ⟨c', v, p, hu, h1, h2, h3⟩
    injection hu with e1 e2
    subst e1; subst e2
    cases h3
    exact ⟨h1, h2⟩
  · rintro ⟨h1, h2⟩
    exact ⟨c, [], q, rfl, h1, h2, .nil q⟩
theorem RcS.step (rs : List Rx) (u : List UInt8) (hu : u ≠ []) (c : UInt8) (q : Nat) : RcS rs (u ++ [c]) q ↔ (∃ p, RcS rs u p ∧ folS rs 0 p q = true) ∧ hsS rs q c = true := by
  obtain ⟨a, v, rfl⟩ := List.exists_cons_of_ne_nil hu
  constructor
  · rintro ⟨c', v', p, e, h1, h2, h3⟩
    rw [List.cons_append] at e
    injection e with e1 e2
    subst e1; subst e2
    obtain ⟨x, h4, h5, h6⟩ := h3.unsnoc
    exact ⟨⟨x, ⟨_, _, p, rfl, h1, h2, h4⟩, h5⟩, h6⟩
  · rintro ⟨⟨x, ⟨c', v', p, e, h1, h2, h3⟩, h5⟩, h6⟩
    injection e with e1 e2
    subst e1; subst e2
    exact ⟨a, v ++ [c], p, rfl, h1, h2, h3.snoc h5 h6⟩
theorem RcS.dead (rs : List Rx) (u : List UInt8) (hu : u ≠ []) (h : ∀ q, ¬ RcS rs u q) : ∀ (v : List UInt8) (q : Nat), ¬ RcS rs (u ++ v) q
  | v, q => by
    rcases List.eq_nil_or_concat v with rfl | ⟨v', c, rfl⟩
    · rw [List.append_nil]; exact h q
    · intro hr
      rw [List.concat_eq_append, ← List.append_assoc, RcS.step rs _ (by simp [hu])] at hr
      obtain ⟨⟨p, hp, _⟩, _⟩ := hr
      exact RcS.dead rs u hu h v' p hp
termination_by v => v.length
theorem FsS.lt {rs : List Rx} {p : Nat} (h : FsS rs p) : p < cntS rs := by
  obtain ⟨i, l, h1, h2⟩ := h
  have hi := (fstS_get h1).1
  have h3 := fstS_at (n := 0) (List.getElem?_eq_getElem hi)
  rw [h1] at h3
  injection h3 with h3
  rw [h3] at h2
  have := (rs[i].fst_up _).2 p h2
  have := cntS_at (List.getElem?_eq_getElem hi)
  omega
theorem folS_lt {rs : List Rx} {x y : Nat} (hx : x < cntS rs) (h : folS rs 0 x y = true) : y < cntS rs := by
  obtain ⟨i, r, h1, h2, h3⟩ := whose hx
  rw [folS_at h1 (by omega) (by omega)] at h
  have := (r.fol_up _ x y h).2
  have := cntS_at h1
  omega
theorem Wk.lt {rs : List Rx} {p q : Nat} {u : List UInt8} (hp : p < cntS rs) (h : Wk (folS rs 0) (hsS rs) p u q) : q < cntS rs := by
  induction h with
  | nil p => exact hp
  | cons p q t c u h1 h2 h3 ih => exact ih (folS_lt hp h1)
theorem RcS.lt {rs : List Rx} {u : List UInt8} {q : Nat} (h : RcS rs u q) : q < cntS rs := by
  obtain ⟨c, v, p, rfl, h1, h2, h3⟩ := h
  exact h3.lt h1.lt
/-- Which of them mean a text. -/
theorem run_iff {rs : List Rx} {i : Nat} {r : Rx} (h : rs[i]? = some r) (u : List UInt8) (hu : u ≠ []) : (∃ q ∈ r.lst (cntS (rs.take i)), RcS rs u q) ↔ r.L u := by
  have hN := cntS_at h
  rw [← acc_iff r (cntS (rs.take i)) (hsS rs) (lab_at h) u]
  generalize hn : cntS (rs.take i) = n at hN ⊢
  have hfol : ∀ {x y : Nat}, n ≤ x → x < n + r.cnt → (folS rs 0 x y = true ↔ r.fol n x y = true) := fun {x y} h1 h2 => by
    have := folS_at (n := 0) (y := y) (x := x) h (by omega) (by omega)
    rw [Nat.zero_add, hn] at this
    exact this
  constructor
  · rintro ⟨q, hq, c, v, p, rfl, hp, hc, hw⟩
    have hql := (r.lst_up n).2 q hq
    obtain ⟨j, l, h1, h2⟩ := hp
    have hj := (fstS_get h1).1
    have hrj := List.getElem?_eq_getElem hj
    have h3 := fstS_at (n := 0) hrj
    rw [h1] at h3
    injection h3 with h3
    rw [h3, Nat.zero_add] at h2
    have hpj := (rs[j].fst_up _).2 p h2
    have hst := Wk.stay (f := folS rs 0) (I := fun x => cntS (rs.take j) ≤ x ∧ x < cntS (rs.take j) + rs[j].cnt) (fun x y hx hxy => by
      refine ⟨hxy, ?_⟩
      rw [folS_at hrj (by omega) (by omega), Nat.zero_add] at hxy
      exact (rs[j].fol_up _ x y hxy).2) hw hpj
    have e1 := rlS_at (k := 0) hrj hst.2.1 hst.2.2
    have e2 := rlS_at (k := 0) (p := q) h (by omega) (by omega)
    have e3 : j = i := by rw [e1] at e2; injection e2 with e2; omega
    subst e3
    rw [hrj] at h
    injection h with h
    rw [h, hn] at h2
    have hpi := (r.fst_up n).2 p h2
    have hw2 := Wk.stay (f := r.fol n) (I := fun x => n ≤ x ∧ x < n + r.cnt) (fun x y hx hxy => by
      rw [hfol hx.1 hx.2] at hxy
      exact ⟨hxy, (r.fol_up n x y hxy).2⟩) hw hpi
    exact .inr ⟨c, v, p, q, rfl, h2, hc, hw2.1, hq⟩
  · rintro (⟨h1, _⟩ | ⟨c, v, p, q, rfl, hp, hc, hw, hq⟩)
    · exact absurd h1 hu
    · refine ⟨q, hq, c, v, p, rfl, ⟨i, _, fstS_at (n := 0) h, by rw [Nat.zero_add, hn]; exact hp⟩, hc, hw.mono (fun x y hxy => ?_)⟩
      have := r.fol_up n x y hxy
      rw [hfol this.1.1 this.1.2]
      exact hxy
theorem Rx.fst_nil : ∀ (r : Rx) (n : Nat), r.fst n = [] → r.cnt = 0
  | .set _, n, h => by simp [Rx.fst] at h
  | .empty, _, _ => rfl
  | .cat a b, n, h => by
    simp only [Rx.fst] at h
    simp only [Rx.cnt]
    split at h
    · have h1 := List.append_eq_nil_iff.1 h
      have := Rx.fst_nil a n h1.1; have := Rx.fst_nil b _ h1.2; omega
    · rename_i hn
      have h1 := Rx.fst_nil a n h
      rw [a.nul_of_cnt h1] at hn
      exact absurd rfl hn
  | .or a b, n, h => by
    simp only [Rx.fst] at h
    simp only [Rx.cnt]
    have h1 := List.append_eq_nil_iff.1 h
    have := Rx.fst_nil a n h1.1; have := Rx.fst_nil b _ h1.2; omega
  | .star a, n, h => Rx.fst_nil a n h
theorem Rx.lst_nil : ∀ (r : Rx) (n : Nat), r.lst n = [] → r.cnt = 0
  | .set _, n, h => by simp [Rx.lst] at h
  | .empty, _, _ => rfl
  | .cat a b, n, h => by
    simp only [Rx.lst] at h
    simp only [Rx.cnt]
    split at h
    · have h1 := List.append_eq_nil_iff.1 h
      have := Rx.lst_nil a n h1.1; have := Rx.lst_nil b _ h1.2; omega
    · rename_i hn
      have h1 := Rx.lst_nil b _ h
      rw [b.nul_of_cnt h1] at hn
      exact absurd rfl hn
  | .or a b, n, h => by
    simp only [Rx.lst] at h
    simp only [Rx.cnt]
    have h1 := List.append_eq_nil_iff.1 h
    have := Rx.lst_nil a n h1.1; have := Rx.lst_nil b _ h1.2; omega
  | .star a, n, h => Rx.lst_nil a n h
theorem fst_lst (r : Rx) (n : Nat) : (r.fst n = []) ↔ (r.lst n = []) := ⟨fun h => r.no_lst n (r.fst_nil n h), fun h => r.no_fst n (r.lst_nil n h)⟩
/-- All that stands behind a position is of the same expression. -/
theorem folS_own {rs : List Rx} {p q : Nat} (hp : p < cntS rs) (h : folS rs 0 p q = true) : ∃ R, (rlS rs 0)[p]? = some R ∧ (rlS rs 0)[q]? = some R := by
  obtain ⟨i, r, h1, h2, h3⟩ := whose hp
  rw [folS_at h1 (by omega) (by omega), Nat.zero_add] at h
  have := (r.fol_up _ p q h).2
  exact ⟨_, rlS_at h1 h2 h3, rlS_at h1 (by omega) (by omega)⟩
theorem fstS_own {rs : List Rx} {i : Nat} {l : List Nat} (h : (fstS rs 0)[i]? = some l) : ∀ q ∈ l, q < cntS rs ∧ (rlS rs 0)[q]? = some i := fun q hq => by
  have hi := (fstS_get h).1
  have h1 := List.getElem?_eq_getElem hi
  have h3 := fstS_at (n := 0) h1
  rw [h] at h3
  injection h3 with h3
  rw [h3] at hq
  have h4 := (rs[i].fst_up _).2 q hq
  have h5 := cntS_at h1
  refine ⟨by omega, ?_⟩
  rw [rlS_at h1 (by omega) (by omega), Nat.zero_add]
theorem lstS_own {rs : List Rx} {i : Nat} {l : List Nat} (h : (lstS rs 0)[i]? = some l) : ∀ q ∈ l, q < cntS rs ∧ (rlS rs 0)[q]? = some i := fun q hq => by
  have hi := (lstS_get h).1
  have h1 := List.getElem?_eq_getElem hi
  have h3 := lstS_at (n := 0) h1
  rw [h] at h3
  injection h3 with h3
  rw [h3] at hq
  have h4 := (rs[i].lst_up _).2 q hq
  have h5 := cntS_at h1
  refine ⟨by omega, ?_⟩
  rw [rlS_at h1 (by omega) (by omega), Nat.zero_add]
theorem firsts {rs : List Rx} {i : Nat} (hi : i < rs.length) : ∃ l k, (fstS rs 0)[i]? = some l ∧ (lstS rs 0)[i]? = some k ∧ (l = [] ↔ k = []) := by
  have h1 := List.getElem?_eq_getElem hi
  exact ⟨_, _, fstS_at h1, lstS_at h1, fst_lst _ _⟩
end Go.Proofs.YtejdfpieblkapaaGreatDoor
