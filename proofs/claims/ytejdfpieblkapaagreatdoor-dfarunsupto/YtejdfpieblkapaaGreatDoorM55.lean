/- Carried from another seat. -/
import Derived.Test.YtejdfpieblkapaaGreatDoorM1
namespace Go.Proofs.YtejdfpieblkapaaGreatDoor

def En (r : Rx) (T : List UInt8) (F O : Nat → Bool) : Prop := ∀ i, i ≤ T.length → (O i = true ↔ ∃ j, j ≤ i ∧ F j = true ∧ r.L ((T.take i).drop j))

theorem cut_len {T : List UInt8} {i j : Nat} (hi : i ≤ T.length) : ((T.take i).drop j).length = i - j := by
 rw [List.length_drop, List.length_take]; omega
theorem cut_two (T : List UInt8) {j m i : Nat} (h1 : j ≤ m) (h2 : m ≤ i) (hi : i ≤ T.length) : (T.take i).drop j = (T.take m).drop j ++ (T.take i).drop m := by
 have e : T.take i = T.take m ++ (T.take i).drop m := by
  have := List.take_append_drop m (T.take i)
  rw [List.take_take, Nat.min_eq_left h2] at this
  exact this.symm
 conv => lhs; rw [e]
 rw [List.drop_append_of_le_length (by rw [List.length_take]; omega)]
theorem cut_split {T x y : List UInt8} {j i : Nat} (hj : j ≤ i) (hi : i ≤ T.length) (h : (T.take i).drop j = x ++ y) : ∃ m, j ≤ m ∧ m ≤ i ∧ x = (T.take m).drop j ∧ y = (T.take i).drop m := by
 have hl := congrArg List.length h
 rw [cut_len hi, List.length_append] at hl
 have h2 := cut_two T (j := j) (m := j + x.length) (i := i) (by omega) (by omega) hi
 rw [h] at h2
 have hxl : x.length = ((T.take (j + x.length)).drop j).length := by rw [cut_len (by omega)]; omega
 obtain ⟨e1, e2⟩ := List.append_inj h2 hxl
 exact ⟨j + x.length, by omega, by omega, e1, e2⟩
theorem En_empty (T : List UInt8) (F : Nat → Bool) : En .empty T F F := fun i hi => by
 constructor
 ·intro h
  refine ⟨i, Nat.le_refl _, h, ?_⟩
  show (T.take i).drop i = []
  rw [List.drop_eq_nil_iff, List.length_take]; omega
 ·rintro ⟨j, hj, hf, he⟩
  have h2 : (T.take i).drop j = [] := he
  have := cut_len (j := j) hi
  rw [h2] at this
  simp at this
  have : j = i := by omega
  rw [← this]; exact hf
theorem En_set (s : Ws) (T : List UInt8) (F O : Nat → Bool) (h0 : O 0 = false) (h : ∀ i (x : UInt8), T[i]? = some x → O (i + 1) = (F i && s.has x)) : En (.set s) T F O := fun i hi => by
 cases i with
 | zero =>
  rw [h0]
  refine ⟨fun h => (by cases h), fun ⟨j, hj, _, c, hc, _⟩ => ?_⟩
  simp at hc
 | succ i =>
  obtain ⟨x, hx⟩ : ∃ x, T[i]? = some x := ⟨_, List.getElem?_eq_getElem (by omega)⟩
  rw [h i x hx, Bool.and_eq_true]
  have hone : (T.take (i + 1)).drop i = [x] := by
   rw [List.take_add_one, hx, List.drop_append_of_le_length (by rw [List.length_take]; omega)]
   rw [List.drop_eq_nil_iff.2 (by rw [List.length_take]; omega)]; rfl
  constructor
  ·rintro ⟨h1, h2⟩
   exact ⟨i, by omega, h1, x, hone, h2⟩
  ·rintro ⟨j, hj, hf, c, hc, hs⟩
   have hl := cut_len (T := T) (j := j) hi
   rw [hc] at hl
   simp at hl
   have : j = i := by omega
   subst this
   rw [hone] at hc
   injection hc with hc
   rw [hc]; exact ⟨hf, hs⟩
theorem En_cat {a b : Rx} {T : List UInt8} {F M O : Nat → Bool} (h1 : En a T F M) (h2 : En b T M O) : En (.cat a b) T F O := fun i hi => by
 rw [h2 i hi]
 constructor
 ·rintro ⟨m, hm, hM, hb⟩
  obtain ⟨j, hj, hF, ha⟩ := (h1 m (by omega)).1 hM
  exact ⟨j, by omega, hF, _, _, cut_two T hj hm hi, ha, hb⟩
 ·rintro ⟨j, hj, hF, x, y, hxy, ha, hb⟩
  obtain ⟨m, hm1, hm2, rfl, rfl⟩ := cut_split hj hi hxy
  exact ⟨m, hm2, (h1 m (by omega)).2 ⟨j, hm1, hF, ha⟩, hb⟩
theorem En_or {a b : Rx} {T : List UInt8} {F A B O : Nat → Bool} (h1 : En a T F A) (h2 : En b T F B) (h : ∀ i, i ≤ T.length → O i = (A i || B i)) : En (.or a b) T F O := fun i hi => by
 rw [h i hi, Bool.or_eq_true, h1 i hi, h2 i hi]
 constructor
 ·rintro (⟨j, h1, h2, h3⟩ | ⟨j, h1, h2, h3⟩)
  ·exact ⟨j, h1, h2, .inl h3⟩
  ·exact ⟨j, h1, h2, .inr h3⟩
 ·rintro ⟨j, h1, h2, h3 | h3⟩
  ·exact .inl ⟨j, h1, h2, h3⟩
  ·exact .inr ⟨j, h1, h2, h3⟩
def StS (a : Rx) (T : List UInt8) (F O : Nat → Bool) : Prop := (∀ i, i ≤ T.length → F i = true → O i = true) ∧ ∀ i, i ≤ T.length → O i = true → ∃ j, j ≤ i ∧ F j = true ∧ Many a.L ((T.take i).drop j)
theorem StS.first (a : Rx) (T : List UInt8) (F : Nat → Bool) : StS a T F F := ⟨fun _ _ h => h, fun i hi h => ⟨i, Nat.le_refl _, h, by
 have : (T.take i).drop i = [] := by rw [List.drop_eq_nil_iff, List.length_take]; omega
 rw [this]; exact .nil⟩⟩
theorem StS.step {a : Rx} {T : List UInt8} {F O N : Nat → Bool} (h : StS a T F O) (hn : En a T O N) : StS a T F (fun i => O i || N i) := by
 refine ⟨fun i hi hf => by simp [h.1 i hi hf], fun i hi hO => ?_⟩
 rw [Bool.or_eq_true] at hO
 rcases hO with hO | hO
 ·exact h.2 i hi hO
 ·obtain ⟨m, hm, hOm, ha⟩ := (hn i hi).1 hO
  obtain ⟨j, hj, hF, hM⟩ := h.2 m (by omega) hOm
  refine ⟨j, by omega, hF, ?_⟩
  rw [cut_two T hj hm hi]
  exact hM.snoc ha
theorem StS.closed {a : Rx} {T : List UInt8} {F O N : Nat → Bool} (h : StS a T F O) (hn : En a T O N) (hc : ∀ i, i ≤ T.length → N i = true → O i = true) : En (.star a) T F O := fun i hi => by
 refine ⟨h.2 i hi, ?_⟩
 have key : ∀ (v : List UInt8), Many a.L v → ∀ m i, m ≤ i → i ≤ T.length → O m = true → (T.take i).drop m = v → O i = true := by
  intro v hv
  induction hv with
  | nil =>
   intro m i hm hi hO hv
   have := cut_len (j := m) hi
   rw [hv] at this
   simp at this
   have : m = i := by omega
   rw [← this]; exact hO
  | cons x y hx hy ih =>
   intro m i hm hi hO hv
   obtain ⟨p, hp1, hp2, rfl, rfl⟩ := cut_split hm hi hv
   exact ih p i hp2 hi (hc p (by omega) ((hn p (by omega)).2 ⟨m, hp1, hO, hx⟩)) rfl
 rintro ⟨j, hj, hF, hM⟩
 exact key _ hM j i hj hi (h.1 j (by omega) hF) rfl
theorem StS.all {a : Rx} {T : List UInt8} {F O : Nat → Bool} (h : StS a T F O) (hc : ∀ i, i ≤ T.length → O i = true) : En (.star a) T F O := fun i hi => ⟨fun _ => h.2 i hi (hc i hi), fun _ => hc i hi⟩
def cntT (O : Nat → Bool) (n : Nat) : Nat := ((List.range n).filter O).length
theorem cntT_succ (O : Nat → Bool) (n : Nat) : cntT O (n + 1) = cntT O n + (if O n = true then 1 else 0) := by
 unfold cntT
 rw [List.range_succ, List.filter_append, List.length_append]
 by_cases h : O n = true <;> simp [h]
theorem cntT_le (O : Nat → Bool) (n : Nat) : cntT O n ≤ n := by
 induction n with
 | zero => simp [cntT]
 | succ n ih => rw [cntT_succ]; split <;> omega
theorem cntT_all {O : Nat → Bool} {n : Nat} (h : n ≤ cntT O n) : ∀ i, i < n → O i = true := by
 induction n with
 | zero => intro i hi; omega
 | succ n ih =>
  rw [cntT_succ] at h
  have hl := cntT_le O n
  intro i hi
  by_cases hO : O n = true
  ·rw [if_pos hO] at h
   rcases (show i = n ∨ i < n by omega) with rfl | hi
   ·exact hO
   ·exact ih (by omega) i hi
  ·rw [if_neg hO] at h
   omega
theorem cntT_mono {O N : Nat → Bool} {n : Nat} (h : ∀ i, i < n → O i = true → N i = true) : cntT O n ≤ cntT N n := by
 induction n with
 | zero => simp [cntT]
 | succ n ih =>
  rw [cntT_succ, cntT_succ]
  have := ih (fun i hi => h i (by omega))
  by_cases hO : O n = true
  ·rw [if_pos hO, if_pos (h n (by omega) hO)]; omega
  ·rw [if_neg hO]; omega
theorem cntT_more {O N : Nat → Bool} {n : Nat} (h : ∀ i, i < n → O i = true → N i = true) {k : Nat} (hk : k < n) (h1 : O k = false) (h2 : N k = true) : cntT O n < cntT N n := by
 induction n with
 | zero => omega
 | succ n ih =>
  rw [cntT_succ, cntT_succ]
  rcases (show k = n ∨ k < n by omega) with rfl | hk
  ·have := cntT_mono (n := k) (fun i hi => h i (by omega))
   rw [if_neg (by rw [h1]; simp), if_pos h2]; omega
  ·have := ih (fun i hi => h i (by omega)) hk
   by_cases hO : O n = true
   ·rw [if_pos hO, if_pos (h n (by omega) hO)]; omega
   ·rw [if_neg hO]; omega
end Go.Proofs.YtejdfpieblkapaaGreatDoor
