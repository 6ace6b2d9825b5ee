/- What settle keeps, as plain mathematics. -/
import Derived.Test.YtejdfpieblkapaaM10
namespace Go.Proofs.Ytejdfpieblkapaa

theorem Rx.at_snoc (r : Rx) (p : Path) (k : Nat) : r.at (p ++ [k]) = (r.kid k).bind (·.at p) := by
  induction p with
  | nil =>
    show (r.at []).bind (·.kid k) = _
    simp [Rx.at]
  | cons j p ih =>
    rw [List.cons_append, Rx.at_cons, ih]
    cases r.kid k with
    | none => rfl
    | some e => rfl

theorem Rx.at_all (r : Rx) : ∀ (p : Path) (e : Rx), r.at p = some e → p ∈ r.all := by
  induction r with
  | set s =>
    intro p e h
    rcases List.eq_nil_or_concat p with rfl | ⟨q, k, rfl⟩
    · simp [Rx.all]
    · rw [List.concat_eq_append, Rx.at_snoc] at h; simp [Rx.kid] at h
  | empty =>
    intro p e h
    rcases List.eq_nil_or_concat p with rfl | ⟨q, k, rfl⟩
    · simp [Rx.all]
    · rw [List.concat_eq_append, Rx.at_snoc] at h; simp [Rx.kid] at h
  | cat a b iha ihb =>
    intro p e h
    rcases List.eq_nil_or_concat p with rfl | ⟨q, k, rfl⟩
    · simp [Rx.all]
    · rw [List.concat_eq_append, Rx.at_snoc] at h
      rcases k with _ | _ | k
      · have := iha q e h; simp [Rx.all, this]
      · have := ihb q e h; simp [Rx.all, this]
      · simp [Rx.kid] at h
  | or a b iha ihb =>
    intro p e h
    rcases List.eq_nil_or_concat p with rfl | ⟨q, k, rfl⟩
    · simp [Rx.all]
    · rw [List.concat_eq_append, Rx.at_snoc] at h
      rcases k with _ | _ | k
      · have := iha q e h; simp [Rx.all, this]
      · have := ihb q e h; simp [Rx.all, this]
      · simp [Rx.kid] at h
  | star a iha =>
    intro p e h
    rcases List.eq_nil_or_concat p with rfl | ⟨q, k, rfl⟩
    · simp [Rx.all]
    · rw [List.concat_eq_append, Rx.at_snoc] at h
      rcases k with _ | k
      · have := iha q e h; simp [Rx.all, this]
      · simp [Rx.kid] at h

theorem Rx.all_length (r : Rx) : r.all.length = r.size := by
  induction r with
  | set s => rfl
  | empty => rfl
  | cat a b iha ihb => simp [Rx.all, Rx.size, iha, ihb]; omega
  | or a b iha ihb => simp [Rx.all, Rx.size, iha, ihb]; omega
  | star a iha => simp [Rx.all, Rx.size, iha]; omega

/-- How many places don't have a time. -/
def cnt (f : Path → Nat) (τ : Nat) (l : List Path) : Nat := (l.filter (fun p => f p != τ)).length
def upd (f : Path → Nat) (p : Path) (τ : Nat) : Path → Nat := fun q => if q = p then τ else f q

theorem upd_same (f : Path → Nat) (p : Path) (τ : Nat) : upd f p τ p = τ := if_pos rfl
theorem upd_keep (f : Path → Nat) (p q : Path) (τ : Nat) (h : f q = τ) : upd f p τ q = τ := by
  unfold upd; split
  · rfl
  · exact h
theorem upd_inv {f : Path → Nat} {p q : Path} {τ : Nat} (h : upd f p τ q = τ) : q = p ∨ f q = τ := by
  unfold upd at h; split at h
  · left; assumption
  · exact .inr h
theorem cnt_le (f : Path → Nat) (τ : Nat) (l : List Path) : cnt f τ l ≤ l.length := List.length_filter_le _ _
theorem cnt_upd_le (f : Path → Nat) (p : Path) (τ : Nat) (l : List Path) : cnt (upd f p τ) τ l ≤ cnt f τ l := by
  induction l with
  | nil => exact Nat.le_refl _
  | cons q l ih =>
    unfold cnt at *
    simp only [List.filter_cons]
    by_cases h : f q = τ
    · have := upd_keep f p q τ h
      simp [h, this]; exact ih
    · by_cases h2 : upd f p τ q = τ
      · simp [h, h2]; omega
      · simp [h, h2]; exact ih
theorem cnt_upd (f : Path → Nat) (p : Path) (τ : Nat) (l : List Path) (hp : p ∈ l) (hf : f p ≠ τ) : cnt (upd f p τ) τ l + 1 ≤ cnt f τ l := by
  induction l with
  | nil => cases hp
  | cons q l ih =>
    rcases List.mem_cons.1 hp with rfl | hp
    · have h1 := upd_same f p τ
      have h2 := cnt_upd_le f p τ l
      unfold cnt at *
      simp only [List.filter_cons]
      simp [hf, h1]; exact h2
    · have ih := ih hp
      unfold cnt at *
      simp only [List.filter_cons]
      by_cases h : f q = τ
      · have := upd_keep f p q τ h
        simp [h, this]; exact ih
      · by_cases h2 : upd f p τ q = τ
        · simp [h, h2]; omega
        · simp [h, h2]; omega

/-- What settle keeps: all that is known follows; all that follows is known, or is to be done. -/
structure St (r : Rx) (u : List UInt8) (τ : Nat) (bg en : Path → Nat) (PB PE PS : List Path) : Prop where
  sb : ∀ p, bg p = τ → X r u true p
  se : ∀ p, en p = τ → X r u false p
  qb : ∀ p, p ∈ PB → X r u true p
  qe : ∀ p, p ∈ PE → X r u false p
  qs : ∀ p, p ∈ PS → bg p = τ ∧ ∃ s, r.at p = some (.set s)
  lb : ∀ p, bg p ≤ τ
  le : ∀ p, en p ≤ τ
  nb : ∀ p e q, bg p = τ → r.at p = some e → q ∈ begB e p → bg q = τ ∨ q ∈ PB
  ne : ∀ p e q, bg p = τ → r.at p = some e → q ∈ begE e p → en q = τ ∨ q ∈ PE
  ns : ∀ p e q, bg p = τ → r.at p = some e → q ∈ begS e p → q ∈ PS
  mb : ∀ k p e q, en (k :: p) = τ → k < 2 → r.at p = some e → q ∈ endB e k p → bg q = τ ∨ q ∈ PB
  me : ∀ k p e q, en (k :: p) = τ → k < 2 → r.at p = some e → q ∈ endE e k p → en q = τ ∨ q ∈ PE
  dt : ∀ p, Seed r u true p → bg p = τ ∨ p ∈ PB
  df : ∀ p, Seed r u false p → en p = τ ∨ p ∈ PE

theorem X_begB {r : Rx} {u : List UInt8} {p q : Path} {e : Rx} (h : X r u true p) (he : r.at p = some e) (hq : q ∈ begB e p) : X r u true q := by
  rw [X_eq] at *
  cases e with
  | set s => cases hq
  | empty => cases hq
  | cat a b =>
    have : q = 0 :: p := by simpa [begB] using hq
    subst this; exact .cat0 p a b he h
  | or a b =>
    have : q = 0 :: p ∨ q = 1 :: p := by simpa [begB] using hq
    rcases this with rfl | rfl
    · exact .or0 p a b he h
    · exact .or1 p a b he h
  | star a =>
    have : q = 0 :: p := by simpa [begB] using hq
    subst this; exact .star1 p a he h
theorem X_begE {r : Rx} {u : List UInt8} {p q : Path} {e : Rx} (h : X r u true p) (he : r.at p = some e) (hq : q ∈ begE e p) : X r u false q := by
  rw [X_eq] at *
  cases e with
  | set s => cases hq
  | empty =>
    have : q = p := by simpa [begE] using hq
    subst this; exact .empty q he h
  | cat a b => cases hq
  | or a b => cases hq
  | star a =>
    have : q = p := by simpa [begE] using hq
    subst this; exact .star0 q a he h
theorem X_endB {r : Rx} {u : List UInt8} {p q : Path} {e : Rx} {k : Nat} (hk : k < 2) (hkid : ∃ e', r.at (k :: p) = some e') (h : X r u false (k :: p)) (he : r.at p = some e) (hq : q ∈ endB e k p) : X r u true q := by
  rw [X_eq] at *
  cases e with
  | set s => simp [endB] at hq
  | empty => simp [endB] at hq
  | cat a b =>
    rcases (show k = 0 ∨ k = 1 by omega) with rfl | rfl
    · have : q = 1 :: p := by simpa [endB] using hq
      subst this; exact .cat1 p a b he h
    · simp [endB] at hq
  | or a b => simp [endB] at hq
  | star a =>
    have : q = p := by simpa [endB] using hq
    subst this
    obtain ⟨e', he'⟩ := hkid
    rw [Rx.at_cons, he] at he'
    rcases (show k = 0 ∨ k = 1 by omega) with rfl | rfl
    · exact .star2 q a he h
    · simp [Rx.kid] at he'
theorem X_endE {r : Rx} {u : List UInt8} {p q : Path} {e : Rx} {k : Nat} (hk : k < 2) (h : X r u false (k :: p)) (he : r.at p = some e) (hq : q ∈ endE e k p) : X r u false q := by
  rw [X_eq] at *
  cases e with
  | set s => simp [endE] at hq
  | empty => simp [endE] at hq
  | cat a b =>
    rcases (show k = 0 ∨ k = 1 by omega) with rfl | rfl
    · simp [endE] at hq
    · have : q = p := by simpa [endE] using hq
      subst this; exact .cat2 q a b he h
  | or a b =>
    have : q = p := by simpa [endE] using hq
    subst this; exact .or2 q a b k he hk h
  | star a => simp [endE] at hq

/-- A spot that has ended is taken off. -/
theorem St.popE {r : Rx} {u : List UInt8} {τ : Nat} {bg en : Path → Nat} {PB PE PS : List Path} {p : Path} (h : St r u τ bg en PB (PE ++ [p]) PS) (hp : en p = τ) : St r u τ bg en PB PE PS := by
  have hm : ∀ q, en q = τ ∨ q ∈ PE ++ [p] → en q = τ ∨ q ∈ PE := fun q hq => hq.elim .inl (fun hq => by
    rcases List.mem_append.1 hq with h1 | h1
    · exact .inr h1
    · rw [List.mem_singleton.1 h1]; exact .inl hp)
  exact ⟨h.sb, h.se, h.qb, fun q hq => h.qe q (List.mem_append_left _ hq), h.qs, h.lb, h.le, h.nb, fun a b c d e f => hm _ (h.ne a b c d e f), h.ns, h.mb, fun a b c d e f g i => hm _ (h.me a b c d e f g i), h.dt, fun a b => hm _ (h.df a b)⟩
theorem St.popB {r : Rx} {u : List UInt8} {τ : Nat} {bg en : Path → Nat} {PB PE PS : List Path} {p : Path} (h : St r u τ bg en (PB ++ [p]) PE PS) (hp : bg p = τ) : St r u τ bg en PB PE PS := by
  have hm : ∀ q, bg q = τ ∨ q ∈ PB ++ [p] → bg q = τ ∨ q ∈ PB := fun q hq => hq.elim .inl (fun hq => by
    rcases List.mem_append.1 hq with h1 | h1
    · exact .inr h1
    · rw [List.mem_singleton.1 h1]; exact .inl hp)
  exact ⟨h.sb, h.se, fun q hq => h.qb q (List.mem_append_left _ hq), h.qe, h.qs, h.lb, h.le, fun a b c d e f => hm _ (h.nb a b c d e f), h.ne, h.ns, fun a b c d e f g i => hm _ (h.mb a b c d e f g i), h.me, fun a b => hm _ (h.dt a b), h.df⟩
/-- One begins. -/
theorem St.begin {r : Rx} {u : List UInt8} {τ : Nat} {bg en : Path → Nat} {PB PE PS : List Path} {p : Path} {e : Rx} (h : St r u τ bg en (PB ++ [p]) PE PS) (he : r.at p = some e) : St r u τ (upd bg p τ) en (PB ++ begB e p) (PE ++ begE e p) (PS ++ begS e p) := by
  have hx : X r u true p := h.qb p (by simp)
  have hm : ∀ q, bg q = τ ∨ q ∈ PB ++ [p] → upd bg p τ q = τ ∨ q ∈ PB ++ begB e p := fun q hq => by
    rcases hq with hq | hq
    · exact .inl (upd_keep _ _ _ _ hq)
    · rcases List.mem_append.1 hq with h1 | h1
      · exact .inr (List.mem_append_left _ h1)
      · rw [List.mem_singleton.1 h1]; exact .inl (upd_same _ _ _)
  refine ⟨fun q hq => ?_, h.se, fun q hq => ?_, fun q hq => ?_, fun q hq => ?_, fun q => ?_, h.le, fun a b c d f i => ?_, fun a b c d f i => ?_, fun a b c d f i => ?_, fun k a b c d f i j => ?_, fun k a b c d f i j => ?_, fun a b => hm _ (h.dt a b), fun a b => ?_⟩
  · rcases upd_inv hq with rfl | hq
    · exact hx
    · exact h.sb q hq
  · rcases List.mem_append.1 hq with h1 | h1
    · exact h.qb q (List.mem_append_left _ h1)
    · exact X_begB hx he h1
  · rcases List.mem_append.1 hq with h1 | h1
    · exact h.qe q h1
    · exact X_begE hx he h1
  · rcases List.mem_append.1 hq with h1 | h1
    · exact ⟨upd_keep _ _ _ _ (h.qs q h1).1, (h.qs q h1).2⟩
    · cases e with
      | set s =>
        have : q = p := by simpa [begS] using h1
        subst this
        exact ⟨upd_same _ _ _, s, he⟩
      | _ => simp [begS] at h1
  · unfold upd; split
    · exact Nat.le_refl _
    · exact h.lb q
  · rcases upd_inv d with rfl | d
    · rw [he] at f; injection f with f; subst f
      exact .inr (List.mem_append_right _ i)
    · exact hm _ (h.nb a b c d f i)
  · rcases upd_inv d with rfl | d
    · rw [he] at f; injection f with f; subst f
      exact .inr (List.mem_append_right _ i)
    · exact (h.ne a b c d f i).imp_right (List.mem_append_left _)
  · rcases upd_inv d with rfl | d
    · rw [he] at f; injection f with f; subst f
      exact List.mem_append_right _ i
    · exact List.mem_append_left _ (h.ns a b c d f i)
  · exact hm _ (h.mb k a b c d f i j)
  · exact (h.me k a b c d f i j).imp_right (List.mem_append_left _)
  · exact (h.df a b).imp_right (List.mem_append_left _)
/-- The whole ends. -/
theorem St.endTop {r : Rx} {u : List UInt8} {τ : Nat} {bg en : Path → Nat} {PB PE PS : List Path} (h : St r u τ bg en PB (PE ++ [[]]) PS) : St r u τ bg (upd en [] τ) PB PE PS := by
  have hm : ∀ q, en q = τ ∨ q ∈ PE ++ [[]] → upd en [] τ q = τ ∨ q ∈ PE := fun q hq => by
    rcases hq with hq | hq
    · exact .inl (upd_keep _ _ _ _ hq)
    · rcases List.mem_append.1 hq with h1 | h1
      · exact .inr h1
      · rw [List.mem_singleton.1 h1]; exact .inl (upd_same _ _ _)
  refine ⟨h.sb, fun q hq => ?_, h.qb, fun q hq => h.qe q (List.mem_append_left _ hq), h.qs, h.lb, fun q => ?_, h.nb, fun a b c d e f => hm _ (h.ne a b c d e f), h.ns, fun k a b c d => ?_, fun k a b c d e f g => ?_, h.dt, fun a b => hm _ (h.df a b)⟩
  · rcases upd_inv hq with rfl | hq
    · exact h.qe _ (by simp)
    · exact h.se q hq
  · unfold upd; split
    · exact Nat.le_refl _
    · exact h.le q
  · rcases upd_inv d with d | d
    · cases d
    · exact h.mb k a b c d
  · rcases upd_inv d with d | d
    · cases d
    · exact hm _ (h.me k a b c d e f g)
/-- A part ends. -/
theorem St.endPart {r : Rx} {u : List UInt8} {τ : Nat} {bg en : Path → Nat} {PB PE PS : List Path} {k : Nat} {p : Path} {e : Rx} (h : St r u τ bg en PB (PE ++ [k :: p]) PS) (hk : k < 2) (he : r.at p = some e) (hkid : ∃ e', r.at (k :: p) = some e') : St r u τ bg (upd en (k :: p) τ) (PB ++ endB e k p) (PE ++ endE e k p) PS := by
  have hx : X r u false (k :: p) := h.qe _ (by simp)
  have hm : ∀ q, en q = τ ∨ q ∈ PE ++ [k :: p] → upd en (k :: p) τ q = τ ∨ q ∈ PE ++ endE e k p := fun q hq => by
    rcases hq with hq | hq
    · exact .inl (upd_keep _ _ _ _ hq)
    · rcases List.mem_append.1 hq with h1 | h1
      · exact .inr (List.mem_append_left _ h1)
      · rw [List.mem_singleton.1 h1]; exact .inl (upd_same _ _ _)
  refine ⟨h.sb, fun q hq => ?_, fun q hq => ?_, fun q hq => ?_, h.qs, h.lb, fun q => ?_, fun a b c d e f => (h.nb a b c d e f).imp_right (List.mem_append_left _), fun a b c d e f => hm _ (h.ne a b c d e f), h.ns, fun j a b c d hj f i => ?_, fun j a b c d hj f i => ?_, fun a b => (h.dt a b).imp_right (List.mem_append_left _), fun a b => hm _ (h.df a b)⟩
  · rcases upd_inv hq with rfl | hq
    · exact hx
    · exact h.se q hq
  · rcases List.mem_append.1 hq with h1 | h1
    · exact h.qb q h1
    · exact X_endB hk hkid hx he h1
  · rcases List.mem_append.1 hq with h1 | h1
    · exact h.qe q (List.mem_append_left _ h1)
    · exact X_endE hk hx he h1
  · unfold upd; split
    · exact Nat.le_refl _
    · exact h.le q
  · rcases upd_inv d with d | d
    · injection d with d1 d2; subst d1; subst d2
      rw [he] at f; injection f with f; subst f
      exact .inr (List.mem_append_right _ i)
    · exact (h.mb j a b c d hj f i).imp_right (List.mem_append_left _)
  · rcases upd_inv d with d | d
    · injection d with d1 d2; subst d1; subst d2
      rw [he] at f; injection f with f; subst f
      exact .inr (List.mem_append_right _ i)
    · exact hm _ (h.me j a b c d hj f i)

/-- Where nothing is to be done, all is known. -/
theorem St.done {r : Rx} {u : List UInt8} {τ : Nat} {bg en : Path → Nat} {PS : List Path} (h : St r u τ bg en [] [] PS) (d : Bool) (p : Path) (hx : X r u d p) : if d = true then bg p = τ else en p = τ := by
  have no : ∀ {a : Prop} {q : Path}, a ∨ q ∈ ([] : List Path) → a := fun h => h.elim id (fun h => by cases h)
  rw [X_eq] at hx
  induction hx with
  | seed d p hs =>
    cases d
    · exact no (h.df p hs)
    · exact no (h.dt p hs)
  | empty p ha _ ih => exact no (h.ne p _ p ih ha (by simp [begE]))
  | cat0 p a b ha _ ih => exact no (h.nb p _ _ ih ha (by simp [begB]))
  | cat1 p a b ha _ ih => exact no (h.mb 0 p _ _ ih (by omega) ha (by simp [endB]))
  | cat2 p a b ha _ ih => exact no (h.me 1 p _ _ ih (by omega) ha (by simp [endE]))
  | or0 p a b ha _ ih => exact no (h.nb p _ _ ih ha (by simp [begB]))
  | or1 p a b ha _ ih => exact no (h.nb p _ _ ih ha (by simp [begB]))
  | or2 p a b k ha hk _ ih => exact no (h.me k p _ _ ih hk ha (by simp [endE]))
  | star0 p a ha _ ih => exact no (h.ne p _ p ih ha (by simp [begE]))
  | star1 p a ha _ ih => exact no (h.nb p _ _ ih ha (by simp [begB]))
  | star2 p a ha _ ih => exact no (h.mb 0 p _ _ ih (by omega) ha (by simp [endB]))

/-- Has the set at a place a byte? -/
def hasAt (r : Rx) (c : UInt8) (p : Path) : Bool := match r.at p with
  | some (.set s) => s.has c
  | _ => false
/-- A byte is read. -/
theorem St.read {r : Rx} {u : List UInt8} {τ : Nat} {bg en : Path → Nat} {PS : List Path} (h : St r u τ bg en [] [] PS) (c : UInt8) : St r (c :: u) (τ + 1) bg en [] (PS.filter (hasAt r c)) [] := by
  have hb : ∀ p, bg p ≠ τ + 1 := fun p => by have := h.lb p; omega
  have he : ∀ p, en p ≠ τ + 1 := fun p => by have := h.le p; omega
  refine ⟨fun p hp => absurd hp (hb p), fun p hp => absurd hp (he p), fun p hp => (by cases hp), fun p hp => ?_, fun p hp => (by cases hp), fun p => by have := h.lb p; omega, fun p => by have := h.le p; omega, fun p _ _ hp => absurd hp (hb p), fun p _ _ hp => absurd hp (hb p), fun p _ _ hp => absurd hp (hb p), fun _ _ _ _ hp => absurd hp (he _), fun _ _ _ _ hp => absurd hp (he _), fun p hp => (by cases hp.1), fun p hp => .inr ?_⟩
  · obtain ⟨h1, h2⟩ := List.mem_filter.1 hp
    obtain ⟨h3, s, h4⟩ := h.qs p h1
    unfold hasAt at h2
    rw [h4] at h2
    exact Cl.seed _ _ ⟨rfl, s, h4, h2, h.sb p h3⟩
  · obtain ⟨_, s, h1, h2, h3⟩ := hp
    have h4 : bg p = τ := h.done true p h3
    exact List.mem_filter.2 ⟨h.ns p _ p h4 h1 (by simp [begS]), by unfold hasAt; rw [h1]; exact h2⟩
/-- At first. -/
theorem St.first (r : Rx) : St r [] 1 (fun _ => 0) (fun _ => 0) [[]] [] [] := by
  refine ⟨fun p hp => (by cases hp), fun p hp => (by cases hp), fun p hp => ?_, fun p hp => (by cases hp), fun p hp => (by cases hp), fun p => by omega, fun p => by omega, fun p _ _ hp => (by cases hp), fun p _ _ hp => (by cases hp), fun p _ _ hp => (by cases hp), fun _ _ _ _ hp => (by cases hp), fun _ _ _ _ hp => (by cases hp), fun p hp => .inr (by rw [hp.2]; simp), fun p hp => (by cases hp.1)⟩
  rw [List.mem_singleton.1 hp]
  exact Cl.seed _ _ ⟨rfl, rfl⟩
/-- The whole has ended just if it means what was read. -/
theorem St.means {r : Rx} {u : List UInt8} {τ : Nat} {bg en : Path → Nat} {PS : List Path} (h : St r u.reverse τ bg en [] [] PS) : en [] = τ ↔ r.L u :=
  ⟨fun hh => (X_iff r u).1 (h.se _ hh), fun hh => h.done false [] ((X_iff r u).2 hh)⟩
/-- Nothing waits: nothing more is meant. -/
theorem St.dead {r : Rx} {u : List UInt8} {τ : Nat} {bg en : Path → Nat} (h : St r u τ bg en [] [] []) (c : UInt8) (v : List UInt8) : ¬ r.L (u.reverse ++ c :: v) := by
  intro hl
  have key : ∀ (v : List UInt8) (d : Bool) (p : Path), ¬ X r (v ++ c :: u) d p := by
    intro v
    induction v with
    | nil =>
      intro d p hx
      rw [X_eq] at hx
      have : ∀ d p, ¬ Seed r (c :: u) d p := by
        rintro d p ⟨_, s, h1, h2, h3⟩
        have h4 : bg p = τ := h.done true p h3
        have := h.ns p _ p h4 h1 (by simp [begS])
        cases this
      have none : ∀ d p, ¬ Cl r (Seed r (c :: u)) d p := by
        intro d p hh
        induction hh with
        | seed d p hs => exact this d p hs
        | _ => assumption
      exact none d p hx
    | cons a v ih =>
      intro d p hx
      rw [X_eq] at hx
      have none : ∀ d p, ¬ Cl r (Seed r (a :: v ++ c :: u)) d p := by
        intro d p hh
        induction hh with
        | seed d p hs =>
          obtain ⟨_, s, _, _, h3⟩ := hs
          exact ih true p h3
        | _ => assumption
      exact none d p hx
  have := (X_iff r _).2 hl
  rw [List.reverse_append, List.reverse_cons, List.reverse_reverse, List.append_assoc] at this
  exact key v.reverse false [] this
end Go.Proofs.Ytejdfpieblkapaa
