/- Positions of expressions: mathematics. -/
import Derived.Test.YtejdfpieblkapaaGreatDoorM1
namespace Go.Proofs.YtejdfpieblkapaaGreatDoor

def Rx.cnt : Rx → Nat
 | .set _ => 1
 | .empty => 0
 | .cat a b => a.cnt + b.cnt
 | .or a b => a.cnt + b.cnt
 | .star a => a.cnt
def Rx.fst : Rx → Nat → List Nat
 | .set _, n => [n]
 | .empty, _ => []
 | .cat a b, n => if a.nul = true then a.fst n ++ b.fst (n + a.cnt) else a.fst n
 | .or a b, n => a.fst n ++ b.fst (n + a.cnt)
 | .star a, n => a.fst n
def Rx.lst : Rx → Nat → List Nat
 | .set _, n => [n]
 | .empty, _ => []
 | .cat a b, n => if b.nul = true then a.lst n ++ b.lst (n + a.cnt) else b.lst (n + a.cnt)
 | .or a b, n => a.lst n ++ b.lst (n + a.cnt)
 | .star a, n => a.lst n
def Rx.fol : Rx → Nat → Nat → Nat → Bool
 | .set _, _, _, _ => false
 | .empty, _, _, _ => false
 | .cat a b, n, p, q => a.fol n p q || b.fol (n + a.cnt) p q || ((a.lst n).contains p && (b.fst (n + a.cnt)).contains q)
 | .or a b, n, p, q => a.fol n p q || b.fol (n + a.cnt) p q
 | .star a, n, p, q => a.fol n p q || ((a.lst n).contains p && (a.fst n).contains q)
def Rx.sts : Rx → List Ws
 | .set s => [s]
 | .empty => []
 | .cat a b => a.sts ++ b.sts
 | .or a b => a.sts ++ b.sts
 | .star a => a.sts
theorem Rx.sts_len : ∀ r : Rx, r.sts.length = r.cnt
 | .set _ => rfl
 | .empty => rfl
 | .cat a b => by simp [Rx.sts, Rx.cnt, a.sts_len, b.sts_len]
 | .or a b => by simp [Rx.sts, Rx.cnt, a.sts_len, b.sts_len]
 | .star a => by simp [Rx.sts, Rx.cnt, a.sts_len]
theorem Rx.nul_of_cnt : ∀ r : Rx, r.cnt = 0 → r.nul = true
 | .set _, h => by simp [Rx.cnt] at h
 | .empty, _ => rfl
 | .cat a b, h => by simp only [Rx.cnt] at h; simp [Rx.nul, a.nul_of_cnt (by omega), b.nul_of_cnt (by omega)]
 | .or a b, h => by simp only [Rx.cnt] at h; simp [Rx.nul, a.nul_of_cnt (by omega)]
 | .star _, _ => rfl
def Up (n m : Nat) (l : List Nat) : Prop := l.Pairwise (· < ·) ∧ ∀ p ∈ l, n ≤ p ∧ p < m
theorem Up.nil (n m : Nat) : Up n m [] := ⟨.nil, by simp⟩
theorem Up.wider {n m n' m' : Nat} {l : List Nat} (h : Up n m l) (h1 : n' ≤ n) (h2 : m ≤ m') : Up n' m' l := ⟨h.1, fun p hp => by have := h.2 p hp; omega⟩
theorem Up.app {n m k : Nat} {l l' : List Nat} (h : Up n m l) (h' : Up m k l') (h1 : n ≤ m) (h2 : m ≤ k) : Up n k (l ++ l') := by
 refine ⟨List.pairwise_append.2 ⟨h.1, h'.1, fun a ha b hb => ?_⟩, fun p hp => ?_⟩
 ·have := h.2 a ha; have := h'.2 b hb; omega
 ·rcases List.mem_append.1 hp with hp | hp
  ·have := h.2 p hp; omega
  ·have := h'.2 p hp; omega
theorem Rx.fst_up : ∀ (r : Rx) (n : Nat), Up n (n + r.cnt) (r.fst n)
 | .set _, n => ⟨by simp [Rx.fst], by simp [Rx.fst, Rx.cnt]⟩
 | .empty, n => Up.nil _ _
 | .cat a b, n => by
  have h1 := a.fst_up n
  have h2 := b.fst_up (n + a.cnt)
  have : n + (Rx.cat a b).cnt = n + a.cnt + b.cnt := by simp only [Rx.cnt]; omega
  rw [this]; simp only [Rx.fst]
  split
  ·exact h1.app h2 (by omega) (by omega)
  ·exact h1.wider (Nat.le_refl _) (by omega)
 | .or a b, n => by
  have h1 := a.fst_up n
  have h2 := b.fst_up (n + a.cnt)
  have : n + (Rx.or a b).cnt = n + a.cnt + b.cnt := by simp only [Rx.cnt]; omega
  rw [this]; simp only [Rx.fst]
  exact h1.app h2 (by omega) (by omega)
 | .star a, n => a.fst_up n
theorem Rx.lst_up : ∀ (r : Rx) (n : Nat), Up n (n + r.cnt) (r.lst n)
 | .set _, n => ⟨by simp [Rx.lst], by simp [Rx.lst, Rx.cnt]⟩
 | .empty, n => Up.nil _ _
 | .cat a b, n => by
  have h1 := a.lst_up n
  have h2 := b.lst_up (n + a.cnt)
  have : n + (Rx.cat a b).cnt = n + a.cnt + b.cnt := by simp only [Rx.cnt]; omega
  rw [this]; simp only [Rx.lst]
  split
  ·exact h1.app h2 (by omega) (by omega)
  ·exact h2.wider (by omega) (by omega)
 | .or a b, n => by
  have h1 := a.lst_up n
  have h2 := b.lst_up (n + a.cnt)
  have : n + (Rx.or a b).cnt = n + a.cnt + b.cnt := by simp only [Rx.cnt]; omega
  rw [this]; simp only [Rx.lst]
  exact h1.app h2 (by omega) (by omega)
 | .star a, n => a.lst_up n
theorem Rx.fol_up : ∀ (r : Rx) (n p q : Nat), r.fol n p q = true → (n ≤ p ∧ p < n + r.cnt) ∧ (n ≤ q ∧ q < n + r.cnt)
 | .set _, n, p, q, h => by simp [Rx.fol] at h
 | .empty, n, p, q, h => by simp [Rx.fol] at h
 | .cat a b, n, p, q, h => by
  simp only [Rx.fol, Bool.or_eq_true, Bool.and_eq_true, List.contains_iff_mem] at h
  simp only [Rx.cnt]
  rcases h with (h | h) | ⟨h1, h2⟩
  ·have := a.fol_up n p q h; omega
  ·have := b.fol_up _ p q h; omega
  ·have := (a.lst_up n).2 p h1; have := (b.fst_up (n + a.cnt)).2 q h2; omega
 | .or a b, n, p, q, h => by
  simp only [Rx.fol, Bool.or_eq_true] at h
  simp only [Rx.cnt]
  rcases h with h | h
  ·have := a.fol_up n p q h; omega
  ·have := b.fol_up _ p q h; omega
 | .star a, n, p, q, h => by
  simp only [Rx.fol, Bool.or_eq_true, Bool.and_eq_true, List.contains_iff_mem] at h
  simp only [Rx.cnt]
  rcases h with h | ⟨h1, h2⟩
  ·have := a.fol_up n p q h; omega
  ·have := (a.lst_up n).2 p h1; have := (a.fst_up n).2 q h2; omega
theorem Rx.no_fst (r : Rx) (n : Nat) (h : r.cnt = 0) : r.fst n = [] := by
 have := (r.fst_up n).2
 cases hl : r.fst n with
 | nil => rfl
 | cons p l => have := this p (by rw [hl]; simp); omega
theorem Rx.no_lst (r : Rx) (n : Nat) (h : r.cnt = 0) : r.lst n = [] := by
 have := (r.lst_up n).2
 cases hl : r.lst n with
 | nil => rfl
 | cons p l => have := this p (by rw [hl]; simp); omega
theorem Rx.no_sts (r : Rx) (h : r.cnt = 0) : r.sts = [] := List.length_eq_zero_iff.1 (by rw [r.sts_len, h])
theorem Rx.no_fol (r : Rx) (n p q : Nat) (h : r.cnt = 0) : r.fol n p q = false := by
 cases hf : r.fol n p q with
 | false => rfl
 | true => have := r.fol_up n p q hf; omega
def Rx.core : Rx → Option Rx
 | .set s => some (.set s)
 | .empty => none
 | .cat a b => match a.core, b.core with
  | none, k => k
  | some k, none => some k
  | some _, some _ => some (.cat a b)
 | .or a b => match a.core, b.core with
  | none, k => k
  | some k, none => some k
  | some _, some _ => some (.or a b)
 | .star a => a.core
def Rx.gst : Rx → Bool
 | .set _ => false
 | .empty => false
 | .cat a b => match a.core, b.core with
  | none, _ => b.gst
  | some _, none => a.gst
  | some _, some _ => false
 | .or a b => match a.core, b.core with
  | none, _ => b.gst
  | some _, none => a.gst
  | some _, some _ => false
 | .star _ => true
theorem Rx.core_none : ∀ r : Rx, r.core = none ↔ r.cnt = 0
 | .set _ => by simp [Rx.core, Rx.cnt]
 | .empty => by simp [Rx.core, Rx.cnt]
 | .cat a b => by
  have h1 := a.core_none; have h2 := b.core_none
  simp only [Rx.core, Rx.cnt]
  cases ha : a.core <;> cases hb : b.core <;> simp only [ha, hb] at * <;> simp_all
 | .or a b => by
  have h1 := a.core_none; have h2 := b.core_none
  simp only [Rx.core, Rx.cnt]
  cases ha : a.core <;> cases hb : b.core <;> simp only [ha, hb] at * <;> simp_all
 | .star a => by simp only [Rx.core, Rx.cnt]; exact a.core_none
structure CoreOf (r k : Rx) : Prop where
 cnt : k.cnt = r.cnt
 size : k.size ≤ r.size
 sts : k.sts = r.sts
 fst : ∀ n, k.fst n = r.fst n
 lst : ∀ n, k.lst n = r.lst n
 fol : ∀ n p q, r.fol n p q = (k.fol n p q || (r.gst && ((r.lst n).contains p && (r.fst n).contains q)))
theorem Rx.core_of : ∀ (r k : Rx), r.core = some k → CoreOf r k
 | .set s, k, h => by
  simp only [Rx.core, Option.some.injEq] at h
  subst h
  exact ⟨rfl, Nat.le_refl _, rfl, fun _ => rfl, fun _ => rfl, fun n p q => by simp [Rx.gst]⟩
 | .empty, k, h => by simp [Rx.core] at h
 | .cat a b, k, h => by
  have hA := a.core_none; have hB := b.core_none
  simp only [Rx.core] at h
  cases ha : a.core with
  | none =>
   rw [ha] at h hA
   have ca := hA.1 rfl
   have H := b.core_of k h
   refine ⟨by rw [H.cnt]; simp [Rx.cnt, ca], by have := H.size; simp only [Rx.size]; omega, by rw [H.sts]; simp [Rx.sts, a.no_sts ca], fun n => ?_, fun n => ?_, fun n p q => ?_⟩
   ·rw [H.fst]; simp [Rx.fst, a.nul_of_cnt ca, a.no_fst n ca, ca]
   ·rw [H.lst]; simp [Rx.lst, a.no_lst n ca, ca]
   ·have hg : (Rx.cat a b).gst = b.gst := by simp [Rx.gst, ha]
    have h1 : (Rx.cat a b).lst n = b.lst n := by simp [Rx.lst, a.no_lst n ca, ca]
    have h2 : (Rx.cat a b).fst n = b.fst n := by simp [Rx.fst, a.nul_of_cnt ca, a.no_fst n ca, ca]
    rw [hg, h1, h2, ← H.fol]
    simp [Rx.fol, a.no_fol n p q ca, a.no_lst n ca, ca]
  | some ka =>
   rw [ha] at h
   cases hb : b.core with
   | none =>
    rw [hb] at h hB
    have cb := hB.1 rfl
    have H := a.core_of k (by rw [ha]; exact h)
    refine ⟨by rw [H.cnt]; simp [Rx.cnt, cb], by have := H.size; simp only [Rx.size]; omega, by rw [H.sts]; simp [Rx.sts, b.no_sts cb], fun n => ?_, fun n => ?_, fun n p q => ?_⟩
    ·rw [H.fst]; simp [Rx.fst, b.no_fst _ cb]
    ·rw [H.lst]; simp [Rx.lst, b.no_lst _ cb, b.nul_of_cnt cb]
    ·have hg : (Rx.cat a b).gst = a.gst := by simp [Rx.gst, ha, hb]
     have h1 : (Rx.cat a b).lst n = a.lst n := by simp [Rx.lst, b.no_lst _ cb, b.nul_of_cnt cb]
     have h2 : (Rx.cat a b).fst n = a.fst n := by simp [Rx.fst, b.no_fst _ cb]
     rw [hg, h1, h2, ← H.fol]
     simp [Rx.fol, b.no_fol _ p q cb, b.no_fst _ cb]
   | some kb =>
    rw [hb] at h
    simp only [Option.some.injEq] at h
    subst h
    exact ⟨rfl, Nat.le_refl _, rfl, fun _ => rfl, fun _ => rfl, fun n p q => by simp [Rx.gst, ha, hb]⟩
 | .or a b, k, h => by
  have hA := a.core_none; have hB := b.core_none
  simp only [Rx.core] at h
  cases ha : a.core with
  | none =>
   rw [ha] at h hA
   have ca := hA.1 rfl
   have H := b.core_of k h
   have h1 : ∀ n, (Rx.or a b).lst n = b.lst n := fun n => by simp [Rx.lst, a.no_lst n ca, ca]
   have h2 : ∀ n, (Rx.or a b).fst n = b.fst n := fun n => by simp [Rx.fst, a.no_fst n ca, ca]
   refine ⟨by rw [H.cnt]; simp [Rx.cnt, ca], by have := H.size; simp only [Rx.size]; omega, by rw [H.sts]; simp [Rx.sts, a.no_sts ca], fun n => by rw [H.fst, h2], fun n => by rw [H.lst, h1], fun n p q => ?_⟩
   have hg : (Rx.or a b).gst = b.gst := by simp [Rx.gst, ha]
   rw [hg, h1, h2, ← H.fol]
   simp [Rx.fol, a.no_fol n p q ca, ca]
  | some ka =>
   rw [ha] at h
   cases hb : b.core with
   | none =>
    rw [hb] at h hB
    have cb := hB.1 rfl
    have H := a.core_of k (by rw [ha]; exact h)
    have h1 : ∀ n, (Rx.or a b).lst n = a.lst n := fun n => by simp [Rx.lst, b.no_lst _ cb]
    have h2 : ∀ n, (Rx.or a b).fst n = a.fst n := fun n => by simp [Rx.fst, b.no_fst _ cb]
    refine ⟨by rw [H.cnt]; simp [Rx.cnt, cb], by have := H.size; simp only [Rx.size]; omega, by rw [H.sts]; simp [Rx.sts, b.no_sts cb], fun n => by rw [H.fst, h2], fun n => by rw [H.lst, h1], fun n p q => ?_⟩
    have hg : (Rx.or a b).gst = a.gst := by simp [Rx.gst, ha, hb]
    rw [hg, h1, h2, ← H.fol]
    simp [Rx.fol, b.no_fol _ p q cb]
   | some kb =>
    rw [hb] at h
    simp only [Option.some.injEq] at h
    subst h
    exact ⟨rfl, Nat.le_refl _, rfl, fun _ => rfl, fun _ => rfl, fun n p q => by simp [Rx.gst, ha, hb]⟩
 | .star a, k, h => by
  have H := a.core_of k h
  refine ⟨H.cnt, by have := H.size; simp only [Rx.size]; omega, H.sts, H.fst, H.lst, fun n p q => ?_⟩
  have hg : (Rx.star a).gst = true := rfl
  have h1 : (Rx.star a).lst n = a.lst n := rfl
  have h2 : (Rx.star a).fst n = a.fst n := rfl
  rw [hg, h1, h2, show (Rx.star a).fol n p q = (a.fol n p q || ((a.lst n).contains p && (a.fst n).contains q)) from rfl, H.fol]
  cases a.gst <;> cases k.fol n p q <;> simp
end Go.Proofs.YtejdfpieblkapaaGreatDoor

/- Positions of expressions: mathematics. -/
namespace Go.Proofs.YtejdfpieblkapaaGreatDoor

inductive Wk (f : Nat → Nat → Bool) (hs : Nat → UInt8 → Bool) : Nat → List UInt8 → Nat → Prop
 | nil (p : Nat) : Wk f hs p [] p
 | cons (p q t : Nat) (c : UInt8) (u : List UInt8) : f p q = true → hs q c = true → Wk f hs q u t → Wk f hs p (c :: u) t
theorem Wk.app {f : Nat → Nat → Bool} {hs : Nat → UInt8 → Bool} {p q t : Nat} {u v : List UInt8} (h : Wk f hs p u q) (k : Wk f hs q v t) : Wk f hs p (u ++ v) t := by
 induction h with
 | nil p => exact k
 | cons p q t c u h1 h2 _ ih => exact .cons p q _ c _ h1 h2 (ih k)
theorem Wk.mono {f g : Nat → Nat → Bool} {hs : Nat → UInt8 → Bool} (hfg : ∀ p q, f p q = true → g p q = true) {p q : Nat} {u : List UInt8} (h : Wk f hs p u q) : Wk g hs p u q := by
 induction h with
 | nil p => exact .nil p
 | cons p q t c u h1 h2 _ ih => exact .cons p q _ c _ (hfg _ _ h1) h2 ih
theorem Wk.stay {f g : Nat → Nat → Bool} {hs : Nat → UInt8 → Bool} {I : Nat → Prop} (hfg : ∀ p q, I p → g p q = true → f p q = true ∧ I q) {p q : Nat} {u : List UInt8} (h : Wk g hs p u q) (hp : I p) : Wk f hs p u q ∧ I q := by
 induction h with
 | nil p => exact ⟨.nil p, hp⟩
 | cons p q t c u h1 h2 _ ih =>
  have := hfg p q hp h1
  have h' := ih this.2
  exact ⟨.cons p q _ c _ this.1 h2 h'.1, h'.2⟩
def Acc (r : Rx) (n : Nat) (hs : Nat → UInt8 → Bool) (u : List UInt8) : Prop :=
 (u = [] ∧ r.nul = true) ∨ ∃ c v p q, u = c :: v ∧ p ∈ r.fst n ∧ hs p c = true ∧ Wk (r.fol n) hs p v q ∧ q ∈ r.lst n
def Lab (r : Rx) (n : Nat) (hs : Nat → UInt8 → Bool) : Prop := ∀ i s, r.sts[i]? = some s → ∀ c, hs (n + i) c = s.has c
theorem Lab.left {a b : Rx} {n : Nat} {hs : Nat → UInt8 → Bool} {l : List Ws} (h : ∀ i s, l[i]? = some s → ∀ c, hs (n + i) c = s.has c) (hl : l = a.sts ++ b.sts) : Lab a n hs := fun i s hi c => h i s (by rw [hl, List.getElem?_append_left (List.getElem?_eq_some_iff.1 hi).1]; exact hi) c
theorem Lab.right {a b : Rx} {n : Nat} {hs : Nat → UInt8 → Bool} {l : List Ws} (h : ∀ i s, l[i]? = some s → ∀ c, hs (n + i) c = s.has c) (hl : l = a.sts ++ b.sts) : Lab b (n + a.cnt) hs := fun i s hi c => by
 rw [Nat.add_assoc]
 exact h (a.cnt + i) s (by rw [hl, List.getElem?_append_right (by rw [a.sts_len]; omega), a.sts_len, Nat.add_sub_cancel_left]; exact hi) c
theorem cat_way {a b : Rx} {n : Nat} {hs : Nat → UInt8 → Bool} {p t : Nat} {u : List UInt8} (h : Wk ((Rx.cat a b).fol n) hs p u t) (hp : n ≤ p ∧ p < n + a.cnt) :
  (Wk (a.fol n) hs p u t ∧ t < n + a.cnt) ∨ ∃ u1 c u2 p1 q1, u = u1 ++ c :: u2 ∧ Wk (a.fol n) hs p u1 p1 ∧ p1 ∈ a.lst n ∧ q1 ∈ b.fst (n + a.cnt) ∧ hs q1 c = true ∧ Wk (b.fol (n + a.cnt)) hs q1 u2 t ∧ n + a.cnt ≤ t := by
 induction h with
 | nil p => exact .inl ⟨.nil p, hp.2⟩
 | cons p q t c u h1 h2 h3 ih =>
  simp only [Rx.fol, Bool.or_eq_true, Bool.and_eq_true, List.contains_iff_mem] at h1
  rcases h1 with (h1 | h1) | ⟨h4, h5⟩
  ·have hq := (a.fol_up n p q h1).2
   rcases ih hq with ⟨h6, h7⟩ | ⟨u1, c1, u2, p1, q1, rfl, k1, k2, k3, k4, k5⟩
   ·exact .inl ⟨.cons p q _ c _ h1 h2 h6, h7⟩
   ·exact .inr ⟨c :: u1, c1, u2, p1, q1, rfl, .cons p q _ c _ h1 h2 k1, k2, k3, k4, k5⟩
  ·have := (b.fol_up _ p q h1).1; omega
  ·have hq := (b.fst_up (n + a.cnt)).2 q h5
   have h6 := Wk.stay (f := b.fol (n + a.cnt)) (I := fun x => n + a.cnt ≤ x) (fun x y hx hxy => by
    simp only [Rx.fol, Bool.or_eq_true, Bool.and_eq_true, List.contains_iff_mem] at hxy
    rcases hxy with (hxy | hxy) | ⟨hxy, _⟩
    ·have := a.fol_up n x y hxy; omega
    ·exact ⟨hxy, (b.fol_up _ x y hxy).2.1⟩
    ·have := (a.lst_up n).2 x hxy; omega) h3 hq.1
   exact .inr ⟨[], c, u, p, q, rfl, .nil p, h4, h5, h2, h6⟩
theorem star_way {a : Rx} {n : Nat} {hs : Nat → UInt8 → Bool} {p t : Nat} {u : List UInt8} (h : Wk ((Rx.star a).fol n) hs p u t) :
  Wk (a.fol n) hs p u t ∨ ∃ u1 c u2 p1 q1, u = u1 ++ c :: u2 ∧ Wk (a.fol n) hs p u1 p1 ∧ p1 ∈ a.lst n ∧ q1 ∈ a.fst n ∧ hs q1 c = true ∧ Wk ((Rx.star a).fol n) hs q1 u2 t := by
 induction h with
 | nil p => exact .inl (.nil p)
 | cons p q t c u h1 h2 h3 ih =>
  simp only [Rx.fol, Bool.or_eq_true, Bool.and_eq_true, List.contains_iff_mem] at h1
  rcases h1 with h1 | ⟨h4, h5⟩
  ·rcases ih with h6 | ⟨u1, c1, u2, p1, q1, rfl, k1, k2, k3, k4, k5⟩
   ·exact .inl (.cons p q _ c _ h1 h2 h6)
   ·exact .inr ⟨c :: u1, c1, u2, p1, q1, rfl, .cons p q _ c _ h1 h2 k1, k2, k3, k4, k5⟩
  ·exact .inr ⟨[], c, u, p, q, rfl, .nil p, h4, h5, h2, h3⟩
theorem star_many {a : Rx} {n : Nat} {hs : Nat → UInt8 → Bool} (H : ∀ u, Acc a n hs u → a.L u) : ∀ (k : Nat) (c : UInt8) (v : List UInt8) (p q : Nat), v.length ≤ k → p ∈ a.fst n → hs p c = true → Wk ((Rx.star a).fol n) hs p v q → q ∈ a.lst n → Many a.L (c :: v)
 | k, c, v, p, q, hk, h1, h2, h3, h4 => by
  rcases star_way h3 with h5 | ⟨u1, c1, u2, p1, q1, rfl, k1, k2, k3, k4, k5⟩
  ·have := Many.cons _ [] (H (c :: v) (.inr ⟨c, v, p, q, rfl, h1, h2, h5, h4⟩)) .nil
   simpa using this
  ·cases k with
   | zero => simp at hk
   | succ k =>
    have hr := star_many H k c1 u2 q1 q (by simp at hk; omega) k3 k4 k5 h4
    exact Many.cons (c :: u1) (c1 :: u2) (H _ (.inr ⟨c, u1, p, p1, rfl, h1, h2, k1, k2⟩)) hr
theorem acc_iff : ∀ (r : Rx) (n : Nat) (hs : Nat → UInt8 → Bool), Lab r n hs → ∀ u, Acc r n hs u ↔ r.L u
 | .set s, n, hs, hl, u => by
  have h0 : ∀ c, hs n c = s.has c := fun c => hl 0 s rfl c
  constructor
  ·rintro (⟨_, h⟩ | ⟨c, v, p, q, rfl, hp, hc, hw, hq⟩)
   ·simp [Rx.nul] at h
   ·have : p = n := by simpa [Rx.fst] using hp
    subst this
    cases hw with
    | nil => exact ⟨c, rfl, by rw [← h0]; exact hc⟩
    | cons _ q' _ c' u' h1 => simp [Rx.fol] at h1
  ·rintro ⟨c, rfl, hc⟩
   exact .inr ⟨c, [], n, n, rfl, by simp [Rx.fst], by rw [h0]; exact hc, .nil n, by simp [Rx.lst]⟩
 | .empty, n, hs, _, u => by
  constructor
  ·rintro (⟨h, _⟩ | ⟨c, v, p, q, _, hp, _⟩)
   ·exact h
   ·simp [Rx.fst] at hp
  ·intro h; exact .inl ⟨h, rfl⟩
 | .cat a b, n, hs, hl, u => by
  have HA := acc_iff a n hs (Lab.left hl rfl)
  have HB := acc_iff b (n + a.cnt) hs (Lab.right hl rfl)
  have mA : ∀ p q, a.fol n p q = true → (Rx.cat a b).fol n p q = true := fun p q h => by simp [Rx.fol, h]
  have mB : ∀ p q, b.fol (n + a.cnt) p q = true → (Rx.cat a b).fol n p q = true := fun p q h => by simp [Rx.fol, h]
  constructor
  ·rintro (⟨rfl, h⟩ | ⟨c, v, p, q, rfl, hp, hc, hw, hq⟩)
   ·simp only [Rx.nul, Bool.and_eq_true] at h
    exact ⟨[], [], rfl, (HA []).1 (.inl ⟨rfl, h.1⟩), (HB []).1 (.inl ⟨rfl, h.2⟩)⟩
   ·have fromB : p ∈ b.fst (n + a.cnt) → a.nul = true → (Rx.cat a b).L (c :: v) := fun hpb hna => by
     have hr := (b.fst_up (n + a.cnt)).2 p hpb
     have h6 := Wk.stay (f := b.fol (n + a.cnt)) (I := fun x => n + a.cnt ≤ x) (fun x y hx hxy => by
      simp only [Rx.fol, Bool.or_eq_true, Bool.and_eq_true, List.contains_iff_mem] at hxy
      rcases hxy with (hxy | hxy) | ⟨hxy, _⟩
      ·have := a.fol_up n x y hxy; omega
      ·exact ⟨hxy, (b.fol_up _ x y hxy).2.1⟩
      ·have := (a.lst_up n).2 x hxy; omega) hw hr.1
     have hqb : q ∈ b.lst (n + a.cnt) := by
      simp only [Rx.lst] at hq
      split at hq
      ·rcases List.mem_append.1 hq with hq | hq
       ·have := (a.lst_up n).2 q hq; have := h6.2; omega
       ·exact hq
      ·exact hq
     exact ⟨[], c :: v, rfl, (HA []).1 (.inl ⟨rfl, hna⟩), (HB _).1 (.inr ⟨c, v, p, q, rfl, hpb, hc, h6.1, hqb⟩)⟩
    have fromA : p ∈ a.fst n → (Rx.cat a b).L (c :: v) := fun hpa => by
     have hr := (a.fst_up n).2 p hpa
     rcases cat_way hw hr with ⟨h6, h7⟩ | ⟨u1, c1, u2, p1, q1, rfl, k1, k2, k3, k4, k5, k6⟩
     ·have hqa : q ∈ a.lst n ∧ b.nul = true := by
       simp only [Rx.lst] at hq
       split at hq
       ·rename_i hb
        rcases List.mem_append.1 hq with hq | hq
        ·exact ⟨hq, hb⟩
        ·have := (b.lst_up _).2 q hq; omega
       ·have := (b.lst_up _).2 q hq; omega
      exact ⟨c :: v, [], by simp, (HA _).1 (.inr ⟨c, v, p, q, rfl, hpa, hc, h6, hqa.1⟩), (HB []).1 (.inl ⟨rfl, hqa.2⟩)⟩
     ·have hqb : q ∈ b.lst (n + a.cnt) := by
       simp only [Rx.lst] at hq
       split at hq
       ·rcases List.mem_append.1 hq with hq | hq
        ·have := (a.lst_up n).2 q hq; omega
        ·exact hq
       ·exact hq
      exact ⟨c :: u1, c1 :: u2, rfl, (HA _).1 (.inr ⟨c, u1, p, p1, rfl, hpa, hc, k1, k2⟩), (HB _).1 (.inr ⟨c1, u2, q1, q, rfl, k3, k4, k5, hqb⟩)⟩
    simp only [Rx.fst] at hp
    split at hp
    ·rename_i hna
     rcases List.mem_append.1 hp with hp | hp
     ·exact fromA hp
     ·exact fromB hp hna
    ·exact fromA hp
  ·rintro ⟨x, y, rfl, hx, hy⟩
   rcases (HA x).2 hx with ⟨rfl, hna⟩ | ⟨c, v, p, q, rfl, hp, hc, hw, hq⟩
   ·rcases (HB y).2 hy with ⟨rfl, hnb⟩ | ⟨c, v, p, q, rfl, hp, hc, hw, hq⟩
    ·exact .inl ⟨rfl, by simp [Rx.nul, hna, hnb]⟩
    ·exact .inr ⟨c, v, p, q, rfl, by simp [Rx.fst, hna, hp], hc, hw.mono mB, by simp only [Rx.lst]; split <;> simp [hq]⟩
   ·have hp' : p ∈ (Rx.cat a b).fst n := by simp only [Rx.fst]; split <;> simp [hp]
    rcases (HB y).2 hy with ⟨rfl, hnb⟩ | ⟨c', v', p', q', rfl, hp2, hc2, hw2, hq2⟩
    ·exact .inr ⟨c, v, p, q, by simp, hp', hc, hw.mono mA, by simp [Rx.lst, hnb, hq]⟩
    ·refine .inr ⟨c, v ++ c' :: v', p, q', by simp, hp', hc, (hw.mono mA).app (.cons q p' q' c' v' ?_ hc2 (hw2.mono mB)), by simp only [Rx.lst]; split <;> simp [hq2]⟩
     simp [Rx.fol, hq, hp2]
 | .or a b, n, hs, hl, u => by
  have HA := acc_iff a n hs (Lab.left hl rfl)
  have HB := acc_iff b (n + a.cnt) hs (Lab.right hl rfl)
  have mA : ∀ p q, a.fol n p q = true → (Rx.or a b).fol n p q = true := fun p q h => by simp [Rx.fol, h]
  have mB : ∀ p q, b.fol (n + a.cnt) p q = true → (Rx.or a b).fol n p q = true := fun p q h => by simp [Rx.fol, h]
  constructor
  ·rintro (⟨rfl, h⟩ | ⟨c, v, p, q, rfl, hp, hc, hw, hq⟩)
   ·simp only [Rx.nul, Bool.or_eq_true] at h
    rcases h with h | h
    ·exact .inl ((HA []).1 (.inl ⟨rfl, h⟩))
    ·exact .inr ((HB []).1 (.inl ⟨rfl, h⟩))
   ·simp only [Rx.fst, Rx.lst, List.mem_append] at hp hq
    rcases hp with hp | hp
    ·have hr := (a.fst_up n).2 p hp
     have h6 := Wk.stay (f := a.fol n) (I := fun x => x < n + a.cnt) (fun x y hx hxy => by
      simp only [Rx.fol, Bool.or_eq_true] at hxy
      rcases hxy with hxy | hxy
      ·exact ⟨hxy, (a.fol_up _ x y hxy).2.2⟩
      ·have := b.fol_up _ x y hxy; omega) hw hr.2
     rcases hq with hq | hq
     ·exact .inl ((HA _).1 (.inr ⟨c, v, p, q, rfl, hp, hc, h6.1, hq⟩))
     ·have := (b.lst_up _).2 q hq; have := h6.2; omega
    ·have hr := (b.fst_up _).2 p hp
     have h6 := Wk.stay (f := b.fol (n + a.cnt)) (I := fun x => n + a.cnt ≤ x) (fun x y hx hxy => by
      simp only [Rx.fol, Bool.or_eq_true] at hxy
      rcases hxy with hxy | hxy
      ·have := a.fol_up _ x y hxy; omega
      ·exact ⟨hxy, (b.fol_up _ x y hxy).2.1⟩) hw hr.1
     rcases hq with hq | hq
     ·have := (a.lst_up _).2 q hq; have := h6.2; omega
     ·exact .inr ((HB _).1 (.inr ⟨c, v, p, q, rfl, hp, hc, h6.1, hq⟩))
  ·rintro (h | h)
   ·rcases (HA u).2 h with ⟨rfl, hna⟩ | ⟨c, v, p, q, rfl, hp, hc, hw, hq⟩
    ·exact .inl ⟨rfl, by simp [Rx.nul, hna]⟩
    ·exact .inr ⟨c, v, p, q, rfl, by simp [Rx.fst, hp], hc, hw.mono mA, by simp [Rx.lst, hq]⟩
   ·rcases (HB u).2 h with ⟨rfl, hna⟩ | ⟨c, v, p, q, rfl, hp, hc, hw, hq⟩
    ·exact .inl ⟨rfl, by simp [Rx.nul, hna]⟩
    ·exact .inr ⟨c, v, p, q, rfl, by simp [Rx.fst, hp], hc, hw.mono mB, by simp [Rx.lst, hq]⟩
 | .star a, n, hs, hl, u => by
  have HA := acc_iff a n hs hl
  have mA : ∀ p q, a.fol n p q = true → (Rx.star a).fol n p q = true := fun p q h => by simp [Rx.fol, h]
  constructor
  ·rintro (⟨rfl, h⟩ | ⟨c, v, p, q, rfl, hp, hc, hw, hq⟩)
   ·exact Many.nil
   ·exact star_many (fun u => (HA u).1) v.length c v p q (Nat.le_refl _) hp hc hw hq
  ·intro h
   have h' : Many a.L u := h
   clear h
   induction h' with
   | nil => exact .inl ⟨rfl, rfl⟩
   | cons x y hx _ ih =>
    rcases (HA x).2 hx with ⟨rfl, _⟩ | ⟨c, v, p, q, rfl, hp, hc, hw, hq⟩
    ·exact ih
    ·rcases ih with ⟨rfl, _⟩ | ⟨c', v', p', q', rfl, hp2, hc2, hw2, hq2⟩
     ·exact .inr ⟨c, v, p, q, by simp, hp, hc, hw.mono mA, hq⟩
     ·refine .inr ⟨c, v ++ c' :: v', p, q', by simp, hp, hc, (hw.mono mA).app (.cons q p' q' c' v' ?_ hc2 hw2), hq2⟩
      have hp3 : p' ∈ a.fst n := hp2
      simp [Rx.fol, hq, hp3]
def Rc (F : Nat → Bool) (f : Nat → Nat → Bool) (hs : Nat → UInt8 → Bool) : List UInt8 → Nat → Prop
 | [], _ => False
 | c :: u, p => hs p c = true ∧ ((u = [] ∧ F p = true) ∨ ∃ q, Rc F f hs u q ∧ f q p = true)
theorem Wk.snoc {f : Nat → Nat → Bool} {hs : Nat → UInt8 → Bool} {p q t : Nat} {c : UInt8} {u : List UInt8} (h : Wk f hs p u q) (h1 : f q t = true) (h2 : hs t c = true) : Wk f hs p (u ++ [c]) t := h.app (.cons q t t c [] h1 h2 (.nil t))
end Go.Proofs.YtejdfpieblkapaaGreatDoor
