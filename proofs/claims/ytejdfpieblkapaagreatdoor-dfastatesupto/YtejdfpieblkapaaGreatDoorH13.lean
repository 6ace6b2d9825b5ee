/- The states that are known, in memory. -/
import Derived.Test.YtejdfpieblkapaaGreatDoorH6
import Derived.Test.YtejdfpieblkapaaGreatDoorH1
namespace Go.Proofs.YtejdfpieblkapaaGreatDoor
open Go.RowKit Go.Shelf

def num (sts : List (List Nat)) (at' : List Nat) : Option Nat × List (List Nat) :=
 if at'.all (· == 0) = true then (none, sts) else if at' ∈ sts then (some (sts.idxOf at' + 1), sts) else (some (sts.length + 1), sts ++ [at'])
theorem num_none {sts : List (List Nat)} {a : List Nat} (h : a.all (· == 0) = true) : num sts a = (none, sts) := by unfold num; rw [if_pos h]
theorem num_old {sts : List (List Nat)} {a : List Nat} (h : a.all (· == 0) = false) (h2 : a ∈ sts) : num sts a = (some (sts.idxOf a + 1), sts) := by unfold num; rw [if_neg (by rw [h]; decide), if_pos h2]
theorem num_new {sts : List (List Nat)} {a : List Nat} (h : a.all (· == 0) = false) (h2 : a ∉ sts) : num sts a = (some (sts.length + 1), sts ++ [a]) := by unfold num; rw [if_neg (by rw [h]; decide), if_neg h2]
structure MkD (w : World) (mk mp B nw : Nat) (cs : List Value) (v5 : Value) (sts : List (List Nat)) : Prop where
 blk : w.heap[mk]? = some (.cells cs.toArray 108 (0, 0))
 c4 : cs[259]? = some (.map (some mp))
 c5 : cs[260]? = some v5
 map : ∃ f, MpAt w mp StrK f sts.length ∧ MpF1 f (sts.map txt)
 row : ∃ xs, w.ownsRow B 87 1 v5 (sts.length + 1) xs ∧ ∀ (i : Nat) (ws : List Nat), (List.replicate nw 0 :: sts)[i]? = some ws → ∃ g, xs[i]? = some (bsV g nw) ∧ BsAt w g ws
 len : ∀ s ∈ sts, s.length = nw
 lt : ∀ s ∈ sts, ∀ x ∈ s, x < 2 ^ 64
theorem MkD.below {w w' : World} {mk mp B nw : Nat} {cs : List Value} {v5 : Value} {sts : List (List Nat)} (h : MkD w mk mp B nw cs v5 sts) (hb : Below w.heap.size w w') : MkD w' mk mp B nw cs v5 sts where
 blk := (hb.block mk (lt_of_heap h.blk)).trans h.blk
 c4 := h.c4
 c5 := h.c5
 map := by
  obtain ⟨f, h1, h2⟩ := h.map
  exact ⟨f, h1.keep (hb.block mp h1.lt) (fun _ h => h), h2⟩
 row := by
  obtain ⟨xs, h1, h2⟩ := h.row
  refine ⟨xs, own_kb h1 (Kb.of_below (fun _ => False) hb) (fun _ _ h => h), fun i ws hi => ?_⟩
  obtain ⟨g, h3, h4⟩ := h2 i ws hi
  exact ⟨g, h3, h4.below hb⟩
 len := h.len
 lt := h.lt
theorem set_same {cs : List Value} {i : Nat} {v : Value} (h : cs[i]? = some v) : cs.set i v = cs := by
 apply List.ext_getElem?
 intro j
 by_cases e : j = i
 ·subst e
  have hl := (List.getElem?_eq_some_iff.1 h).1
  rw [List.getElem?_set_self hl, h]
 ·rw [List.getElem?_set_ne (fun h => e h.symm)]
theorem number_md (w : World) (mk mp B ga nw : Nat) (cs : List Value) (v5 : Value) (sts : List (List Nat)) (at' : List Nat) (h : MkD w mk mp B nw cs v5 sts) (hB : B ≤ w.heap.size) (hs : sts.length ≤ 100000) (ha : BsAt w ga at') (hla : at'.length = nw) (hnw : nw ≤ 20000) :
  Calls Tryz.prog 96 #[ptr mk, bsV ga nw] w fun e w' => e = .returned (av (num sts at').1) ∧ ∃ v5', MkD w' mk mp B nw (cs.set 260 v5') v5' (num sts at').2 ∧ Kb (fun i => i = mk ∨ i = mp ∨ v5.ownBlock = some i) w w' ∧ (∀ g, v5'.ownBlock = some g → v5.ownBlock = some g ∨ w.heap.size ≤ g) := by
 obtain ⟨f, hm1, hm2⟩ := h.map
 obtain ⟨xs, hr1, hr2⟩ := h.row
 refine (number_any w mk mp B ga nw cs xs v5 sts f at' h.blk h.c4 h.c5 hm1 hm2 hr1 hB h.lt hs ha hla hnw).mono ?_
 rintro e w' (⟨h1, rfl, rfl⟩ | ⟨h1, h2, rfl, hb⟩ | ⟨h1, h2, rfl, v5', f', k1, k2, k3, k4, k5, k6⟩)
 ·rw [num_none h1]
  exact ⟨rfl, v5, by rw [set_same h.c5]; exact h, Kb.refl _ _, fun g hg => .inl hg⟩
 ·rw [num_old h1 h2]
  exact ⟨rfl, v5, by rw [set_same h.c5]; exact h.below hb, Kb.of_below _ hb, fun g hg => .inl hg⟩
 ·rw [num_new h1 h2]
  have hl5 : 260 < cs.length := (List.getElem?_eq_some_iff.1 h.c5).1
  have hkeep : ∀ g ws, BsAt w g ws → BsAt w' g ws := fun g ws hg => hg.keep k5 (fun e => by
   rcases e with rfl | rfl | e
   ·have := h.blk; rw [hg.1] at this; injection this with this; injection this with _ this; cases this
   ·obtain ⟨es, clock, hb, _⟩ := hm1; rw [hg.1] at hb; cases hb
   ·obtain ⟨_, cs', hb⟩ := own_ty hr1 e; rw [hg.1] at hb; injection hb with hb; injection hb with _ hb; cases hb)
  refine ⟨rfl, v5', ⟨k1, by rw [List.getElem?_set_ne (by omega)]; exact h.c4, List.getElem?_set_self hl5, ⟨f', by rw [List.length_append, List.length_singleton]; exact k2, k3⟩, ⟨xs ++ [bsV ga nw], by rw [List.length_append, List.length_singleton]; exact k4, fun i ws hi => ?_⟩, fun s hs => ?_, fun s hs => ?_⟩, k5, k6⟩
  ·have hxl : xs.length = sts.length + 1 := by have := hr1.1; simpa using this
   rw [← List.cons_append] at hi
   rcases Nat.lt_or_ge i (sts.length + 1) with hi2 | hi2
   ·rw [List.getElem?_append_left (by simpa using hi2)] at hi
    obtain ⟨g, h3, h4⟩ := hr2 i ws hi
    exact ⟨g, by rw [List.getElem?_append_left (by omega)]; exact h3, hkeep g ws h4⟩
   ·have hlt := (List.getElem?_eq_some_iff.1 hi).1
    simp at hlt
    obtain rfl : i = sts.length + 1 := by omega
    rw [List.getElem?_append_right (by simp)] at hi
    simp at hi
    subst hi
    exact ⟨ga, by rw [List.getElem?_append_right (by omega), hxl]; simp, hkeep ga at' ha⟩
  ·rcases List.mem_append.1 hs with hs | hs
   ·exact h.len s hs
   ·rw [List.mem_singleton.1 hs]; exact hla
  ·rcases List.mem_append.1 hs with hs | hs
   ·exact h.lt s hs
   ·rw [List.mem_singleton.1 hs]; exact ha.2
end Go.Proofs.YtejdfpieblkapaaGreatDoor

/- How states are met: the mathematics. -/
namespace Go.Proofs.YtejdfpieblkapaaGreatDoor
open Go.RowKit Go.Shelf

structure Mk where
 N : Nat
 nw : Nat
 kn : Nat
 fi : List Nat
 fo : Nat → List Nat
 hs : Nat → List Nat
def Mk.ah (M : Mk) (sts : List (List Nat)) (n : Nat) : List Nat :=
 if n = 0 then M.fi else wds M.N fun q => (List.range M.N).any fun p => bt (sts.getD (n - 1) []) p && bt (M.fo p) q
def rowK (M : Mk) (ah : List Nat) : Nat → List (List Nat) → List (Option Nat) × List (List Nat)
 | 0, s => ([], s)
 | k + 1, s => ((rowK M ah k s).1 ++ [(num (rowK M ah k s).2 (mt2 ah (M.hs k))).1], (num (rowK M ah k s).2 (mt2 ah (M.hs k))).2)
def mst (M : Mk) : Nat → List (List Nat) × List (List (Option Nat))
 | 0 => ([], [])
 | n + 1 => ((rowK M (M.ah (mst M n).1 n) M.kn (mst M n).1).2, (mst M n).2 ++ [(rowK M (M.ah (mst M n).1 n) M.kn (mst M n).1).1])
theorem num_pre (s : List (List Nat)) (a : List Nat) : s <+: (num s a).2 := by
 unfold num
 split
 ·exact List.prefix_refl _
 ·split
  ·exact List.prefix_refl _
  ·exact List.prefix_append _ _
theorem rowK_pre (M : Mk) (ah : List Nat) (s : List (List Nat)) : ∀ k, s <+: (rowK M ah k s).2
 | 0 => List.prefix_refl _
 | k + 1 => (rowK_pre M ah s k).trans (num_pre _ _)
theorem mst_step (M : Mk) (n : Nat) : (mst M n).1 <+: (mst M (n + 1)).1 := rowK_pre M _ _ _
theorem mst_pre (M : Mk) {m n : Nat} (h : m ≤ n) : (mst M m).1 <+: (mst M n).1 := by
 induction n with
 | zero =>
  obtain rfl : m = 0 := by omega
  exact List.prefix_refl _
 | succ n ih =>
  rcases Nat.lt_or_ge m (n + 1) with h1 | h1
  ·exact (ih (by omega)).trans (mst_step M n)
  ·obtain rfl : m = n + 1 := by omega
   exact List.prefix_refl _
theorem rowK_len (M : Mk) (ah : List Nat) (s : List (List Nat)) : ∀ k, (rowK M ah k s).1.length = k
 | 0 => rfl
 | k + 1 => by
  show ((rowK M ah k s).1 ++ [_]).length = _
  rw [List.length_append, rowK_len M ah s k, List.length_singleton]
theorem mst_rows (M : Mk) : ∀ n, (mst M n).2.length = n
 | 0 => rfl
 | n + 1 => by
  show ((mst M n).2 ++ [_]).length = _
  rw [List.length_append, mst_rows M n, List.length_singleton]
theorem num_nodup {s : List (List Nat)} (h : s.Nodup) (a : List Nat) : (num s a).2.Nodup := by
 unfold num
 split
 ·exact h
 ·split
  ·exact h
  ·rename_i h2
   exact List.nodup_append.2 ⟨h, by simp, fun x hx y hy e => h2 (by rw [List.mem_singleton.1 hy] at e; rw [← e]; exact hx)⟩
theorem rowK_nodup (M : Mk) (ah : List Nat) {s : List (List Nat)} (h : s.Nodup) : ∀ k, (rowK M ah k s).2.Nodup
 | 0 => h
 | k + 1 => num_nodup (rowK_nodup M ah h k) _
theorem mst_nodup (M : Mk) : ∀ n, (mst M n).1.Nodup
 | 0 => List.nodup_nil
 | n + 1 => rowK_nodup M _ (mst_nodup M n) _
theorem num_get (s : List (List Nat)) (a : List Nat) : (a.all (· == 0) = true ∧ (num s a).1 = none) ∨ (a.all (· == 0) = false ∧ ∃ i, (num s a).1 = some (i + 1) ∧ (num s a).2[i]? = some a) := by
 cases h : a.all (· == 0) with
 | true => rw [num_none h]; exact .inl ⟨rfl, rfl⟩
 | false =>
  refine .inr ⟨rfl, ?_⟩
  by_cases h2 : a ∈ s
  ·rw [num_old h h2]
   refine ⟨s.idxOf a, rfl, ?_⟩
   have hlt := List.idxOf_lt_length_iff.2 h2
   rw [List.getElem?_eq_getElem hlt, List.getElem_idxOf hlt]
  ·rw [num_new h h2]
   exact ⟨s.length, rfl, by simp⟩
end Go.Proofs.YtejdfpieblkapaaGreatDoor

/- What a maker has met: mathematics. -/
namespace Go.Proofs.YtejdfpieblkapaaGreatDoor
open Go.RowKit Go.Shelf

theorem pre_get {α : Type} {a b : List α} (h : a <+: b) {i : Nat} {x : α} (hx : a[i]? = some x) : b[i]? = some x := by
 obtain ⟨t, rfl⟩ := h
 rw [List.getElem?_append_left (List.getElem?_eq_some_iff.1 hx).1]; exact hx
theorem pre_len {α : Type} {a b : List α} (h : a <+: b) : a.length ≤ b.length := by
 obtain ⟨t, rfl⟩ := h
 rw [List.length_append]; omega
theorem bt_all0 {ws : List Nat} (hw : ∀ x ∈ ws, x < 2 ^ 64) : ws.all (· == 0) = true ↔ ∀ q, bt ws q = false := by
 constructor
 ·intro h q
  unfold bt
  have : ws.getD (q / 64) 0 = 0 := by
   rw [List.getD_eq_getElem?_getD]
   cases e : ws[q / 64]? with
   | none => rfl
   | some y =>
    have := List.all_eq_true.1 h y (List.mem_of_getElem? e)
    simpa using this
  rw [this]; simp
 ·intro h
  rw [List.all_eq_true]
  intro x hx
  obtain ⟨i, hi, rfl⟩ := List.mem_iff_getElem.1 hx
  have : ws[i] = 0 := by
   apply Nat.eq_of_testBit_eq
   intro j
   rw [Nat.zero_testBit]
   rcases Nat.lt_or_ge j 64 with hj | hj
   ·have := h (64 * i + j)
    unfold bt at this
    rw [show (64 * i + j) / 64 = i by omega, show (64 * i + j) % 64 = j by omega] at this
    simpa [List.getD_eq_getElem?_getD, List.getElem?_eq_getElem hi] using this
   ·exact Nat.testBit_lt_two_pow (Nat.lt_of_lt_of_le (hw _ (List.getElem_mem hi)) (Nat.pow_le_pow_right (by omega) hj))
  simpa using this
theorem rowK_step (M : Mk) (ah : List Nat) (s : List (List Nat)) (k : Nat) : (rowK M ah k s).2 <+: (rowK M ah (k + 1) s).2 := num_pre _ _
theorem rowK_mono (M : Mk) (ah : List Nat) (s : List (List Nat)) {j k : Nat} (h : j ≤ k) : (rowK M ah j s).2 <+: (rowK M ah k s).2 := by
 induction k with
 | zero =>
  obtain rfl : j = 0 := by omega
  exact List.prefix_refl _
 | succ k ih =>
  rcases Nat.lt_or_ge j (k + 1) with h1 | h1
  ·exact (ih (by omega)).trans (rowK_step M ah s k)
  ·obtain rfl : j = k + 1 := by omega
   exact List.prefix_refl _
theorem rowK_get (M : Mk) (ah : List Nat) (s : List (List Nat)) {j k : Nat} (h : k < j) : (rowK M ah j s).1[k]? = some (num (rowK M ah k s).2 (mt2 ah (M.hs k))).1 := by
 induction j with
 | zero => omega
 | succ j ih =>
  show ((rowK M ah j s).1 ++ [_])[k]? = _
  rcases Nat.lt_or_ge k j with h1 | h1
  ·rw [List.getElem?_append_left (by rw [rowK_len]; exact h1), ih h1]
  ·obtain rfl : k = j := by omega
   rw [List.getElem?_append_right (by rw [rowK_len]; exact Nat.le_refl _), rowK_len, Nat.sub_self]; rfl
theorem num_le (s : List (List Nat)) (a : List Nat) : (num s a).2.length ≤ s.length + 1 := by
 unfold num
 split
 ·simp
 ·split <;> simp
theorem rowK_le (M : Mk) (ah : List Nat) (s : List (List Nat)) : ∀ k, (rowK M ah k s).2.length ≤ s.length + k
 | 0 => Nat.le_refl _
 | k + 1 => by
  have h1 := rowK_le M ah s k
  have h2 := num_le (rowK M ah k s).2 (mt2 ah (M.hs k))
  show (num _ _).2.length ≤ _
  omega
theorem mst_row (M : Mk) {i n : Nat} (h : i < n) : (mst M n).2[i]? = some (rowK M (M.ah (mst M i).1 i) M.kn (mst M i).1).1 := by
 induction n with
 | zero => omega
 | succ n ih =>
  show ((mst M n).2 ++ [_])[i]? = _
  rcases Nat.lt_or_ge i n with h1 | h1
  ·rw [List.getElem?_append_left (by rw [mst_rows]; exact h1), ih h1]
  ·obtain rfl : i = n := by omega
   rw [List.getElem?_append_right (by rw [mst_rows]; exact Nat.le_refl _), mst_rows, Nat.sub_self]; rfl
theorem ah_pre (M : Mk) {a b : List (List Nat)} (h : a <+: b) {i : Nat} (hi : i ≤ a.length) : M.ah a i = M.ah b i := by
 unfold Mk.ah
 by_cases h0 : i = 0
 ·rw [if_pos h0, if_pos h0]
 ·rw [if_neg h0, if_neg h0]
  have e : b.getD (i - 1) [] = a.getD (i - 1) [] := by
   rw [List.getD_eq_getElem?_getD, List.getD_eq_getElem?_getD, pre_get h (List.getElem?_eq_getElem (show i - 1 < a.length by omega)), List.getElem?_eq_getElem (show i - 1 < a.length by omega)]
  rw [e]
structure Met (M : Mk) (n : Nat) : Prop where
 reach : ∀ i < n, i ≤ (mst M i).1.length
 all : (mst M n).1.length + 1 = n
theorem Met.row {M : Mk} {n i k : Nat} (h : Met M n) (hi : i < n) (hk : k < M.kn) : ∃ row o, (mst M n).2[i]? = some row ∧ row[k]? = some o ∧ ((mt2 (M.ah (mst M n).1 i) (M.hs k)).all (· == 0) = true ∧ o = none ∨ (mt2 (M.ah (mst M n).1 i) (M.hs k)).all (· == 0) = false ∧ ∃ j, o = some (j + 1) ∧ (mst M n).1[j]? = some (mt2 (M.ah (mst M n).1 i) (M.hs k))) := by
 have hp := mst_pre M (Nat.le_of_lt hi)
 have he := ah_pre M hp (h.reach i hi)
 refine ⟨_, _, mst_row M hi, rowK_get M _ _ hk, ?_⟩
 rw [he]
 rcases num_get (rowK M (M.ah (mst M n).1 i) k (mst M i).1).2 (mt2 (M.ah (mst M n).1 i) (M.hs k)) with ⟨h1, h2⟩ | ⟨h1, j, h2, h3⟩
 ·exact .inl ⟨h1, h2⟩
 ·refine .inr ⟨h1, j, h2, ?_⟩
  have p1 : (num (rowK M (M.ah (mst M n).1 i) k (mst M i).1).2 (mt2 (M.ah (mst M n).1 i) (M.hs k))).2 <+: (mst M (i + 1)).1 := by
   show _ <+: (rowK M (M.ah (mst M i).1 i) M.kn (mst M i).1).2
   rw [he]
   exact rowK_mono M _ _ (j := k + 1) (by omega)
  exact pre_get (p1.trans (mst_pre M (show i + 1 ≤ n by omega))) h3
theorem rowK_all (M : Mk) (ah : List Nat) (P : List Nat → Prop) (hP : ∀ k < M.kn, (mt2 ah (M.hs k)).all (· == 0) = false → P (mt2 ah (M.hs k))) {s : List (List Nat)} (hs : ∀ x ∈ s, P x) : ∀ k, k ≤ M.kn → ∀ x ∈ (rowK M ah k s).2, P x
 | 0, _ => hs
 | k + 1, hk => by
  intro x hx
  have ih := rowK_all M ah P hP hs k (by omega)
  change x ∈ (num (rowK M ah k s).2 (mt2 ah (M.hs k))).2 at hx
  cases h : (mt2 ah (M.hs k)).all (· == 0) with
  | true => rw [num_none h] at hx; exact ih x hx
  | false =>
   by_cases h2 : mt2 ah (M.hs k) ∈ (rowK M ah k s).2
   ·rw [num_old h h2] at hx; exact ih x hx
   ·rw [num_new h h2] at hx
    rcases List.mem_append.1 hx with hx | hx
    ·exact ih x hx
    ·rw [List.mem_singleton.1 hx]; exact hP k (by omega) h
theorem mst_all (M : Mk) (P : List Nat → Prop) : ∀ n, (∀ i < n, ∀ k < M.kn, (mt2 (M.ah (mst M i).1 i) (M.hs k)).all (· == 0) = false → P (mt2 (M.ah (mst M i).1 i) (M.hs k))) → ∀ x ∈ (mst M n).1, P x
 | 0, _ => by intro x hx; cases hx
 | n + 1, h => rowK_all M _ P (h n (by omega)) (mst_all M P n (fun i hi => h i (by omega))) _ (Nat.le_refl _)
end Go.Proofs.YtejdfpieblkapaaGreatDoor
