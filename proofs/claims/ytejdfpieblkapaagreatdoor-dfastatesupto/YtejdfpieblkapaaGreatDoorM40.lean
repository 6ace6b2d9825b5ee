/- Carried from another seat. -/
import Derived.Test.YtejdfpieblkapaaGreatDoorM30
namespace Go.Proofs.YtejdfpieblkapaaGreatDoor
open Go.RowKit Go.Shelf

theorem nx_out {L : List UInt8} {i : Nat} (h : L.length ≤ i) : nx L i = 0 := by
 unfold nx; rw [List.getElem?_eq_none h]; rfl
theorem nx_lt' {L : List UInt8} {i : Nat} (h : nx L i ≠ 0) : i < L.length := by
 rcases Nat.lt_or_ge i L.length with h' | h'
 ·exact h'
 ·exact absurd (nx_out h') h
theorem nx_mid (P A M : List UInt8) {i : Nat} (h : i < A.length) : nx (P ++ A ++ M) (P.length + i) = nx A i := by
 unfold nx
 rw [List.append_assoc, List.getElem?_append_right (by omega), Nat.add_sub_cancel_left, List.getElem?_append_left h]
section
variable (P A M : List UInt8)
theorem hexP_mid {i k n : Nat} (h : hexP A i k = some n) : hexP (P ++ A ++ M) (P.length + i) k = some n ∧ (0 < k → i + k ≤ A.length) := by
 induction k generalizing n with
 | zero => exact ⟨h, fun h => absurd h (by omega)⟩
 | succ k ih =>
  simp only [hexP] at h ⊢
  obtain ⟨m, hm, hh⟩ := Option.bind_eq_some_iff.1 h
  have hlt : i + k < A.length := by
   apply nx_lt'
   intro h0
   rw [h0] at hh
   have : Lib.indexByte HX.data.toList (0 : Nat).toUInt8 < 0 := by decide
   rw [if_pos this] at hh
   cases hh
  rw [(ih hm).1, Nat.add_assoc, nx_mid P A M hlt]
  exact ⟨hh, fun _ => by omega⟩
theorem escF_mid {sp : ByteArray} (hsp : inS sp 0 = false) {i b j : Nat} (h : escF sp A i = some (b, j)) : escF sp (P ++ A ++ M) (P.length + i) = some (b, P.length + j) ∧ j ≤ A.length := by
 have hlt : i < A.length := by
  apply nx_lt'
  intro h0
  unfold escF at h
  rw [h0, hsp] at h
  simp at h
 unfold escF at h ⊢
 rw [nx_mid P A M hlt]
 split at h
 ·rename_i h1
  rw [if_pos h1]
  unfold hexF at h ⊢
  obtain ⟨n, hn, hh⟩ := Option.map_eq_some_iff.1 h
  injection hh with e1 e2
  obtain ⟨h2, h3⟩ := hexP_mid P A M hn
  rw [show P.length + i + 1 = P.length + (i + 1) by omega, h2, ← e1, ← e2]
  exact ⟨rfl, by have := h3 (by omega); omega⟩
 ·rename_i h1
  rw [if_neg h1]
  split at h
  ·rename_i h2; rw [if_pos h2]; injection h with h; injection h with e1 e2; rw [← e1, ← e2]; exact ⟨rfl, by omega⟩
  ·rename_i h2
   rw [if_neg h2]
   split at h
   ·rename_i h3; rw [if_pos h3]; injection h with h; injection h with e1 e2; rw [← e1, ← e2]; exact ⟨rfl, by omega⟩
   ·rename_i h3
    rw [if_neg h3]
    split at h
    ·rename_i h4; rw [if_pos h4]; injection h with h; injection h with e1 e2; rw [← e1, ← e2]; exact ⟨rfl, by omega⟩
    ·rename_i h4
     rw [if_neg h4]
     split at h
     ·rename_i h5; rw [if_pos h5]; injection h with h; injection h with e1 e2; rw [← e1, ← e2]; exact ⟨rfl, by omega⟩
     ·cases h
theorem letF_mid {sp : ByteArray} (hsp : inS sp 0 = false) {i b j : Nat} (h : letF sp A i = some (b, j)) : letF sp (P ++ A ++ M) (P.length + i) = some (b, P.length + j) ∧ i < j ∧ j ≤ A.length := by
 have hlt : i < A.length := by
  apply nx_lt'
  intro h0
  unfold letF at h
  rw [h0] at h
  simp at h
 unfold letF at h ⊢
 rw [nx_mid P A M hlt]
 split at h
 ·rename_i h1
  rw [if_pos h1, Nat.add_assoc]
  have := escF_mid P A M hsp h
  refine ⟨this.1, ?_, this.2⟩
  unfold escF at h
  (repeat' split at h) <;> first | (injection h with h; injection h with e1 e2; omega) | (cases h) | skip
  unfold hexF at h
  obtain ⟨n, hn, hh⟩ := Option.map_eq_some_iff.1 h
  injection hh with e1 e2
  omega
 ·rename_i h1
  rw [if_neg h1]
  split at h
  ·cases h
  ·rename_i h2
   rw [if_neg h2]
   injection h with h; injection h with e1 e2
   rw [← e1, ← e2]
   exact ⟨rfl, by omega, by omega⟩
theorem lettersF_mid {i j : Nat} {t : Ws} (h : lettersF A i = some (t, j)) (hj : j < A.length) : lettersF (P ++ A ++ M) (P.length + i) = some (t, P.length + j) := by
 unfold lettersF at h ⊢
 split at h
 ·cases h
 ·rename_i f k hf
  have h1 := letF_mid P A M ins0 hf
  rw [h1.1]
  have hk : k < A.length := by
   split at h
   ·rename_i h45
    exact nx_lt' (by omega)
   ·injection h with h; injection h with e1 e2; omega
  show (if nx (P ++ A ++ M) (P.length + k) = 45 then _ else _) = _
  rw [nx_mid P A M hk]
  split at h
  ·rename_i h45
   rw [if_pos h45]
   split at h
   ·cases h
   ·rename_i g m hg
    have h3 := letF_mid P A M ins0 hg
    rw [Nat.add_assoc, h3.1]
    split at h
    ·cases h
    ·rename_i h4
     injection h with h; injection h with e1 e2
     show (if g < f then none else some (btw f (g + 1 - f), P.length + m)) = _
     rw [if_neg h4, ← e1, ← e2]
  ·rename_i h45
   rw [if_neg h45]
   injection h with h; injection h with e1 e2
   rw [← e1, ← e2]
theorem classP_mid {k k' i j : Nat} {t u : Ws} (h : classP A k t i = some (u, j)) (hk : k ≤ k') : classP (P ++ A ++ M) k' t (P.length + i) = some (u, P.length + j) ∧ i < A.length ∧ j ≤ A.length := by
 induction k generalizing i t k' with
 | zero => simp [classP] at h
 | succ k ih =>
  obtain ⟨k', rfl⟩ : ∃ m, k' = m + 1 := ⟨k' - 1, by omega⟩
  simp only [classP] at h ⊢
  split at h
  ·rename_i hc
   have hlt : i < A.length := nx_lt' (by omega)
   rw [nx_mid P A M hlt, if_pos hc]
   injection h with h; injection h with e1 e2
   rw [← e1, ← e2]
   exact ⟨rfl, hlt, by omega⟩
  ·rename_i hc
   obtain ⟨⟨x, m⟩, hx, hh⟩ := Option.bind_eq_some_iff.1 h
   have h2 := ih hh (show k ≤ k' by omega)
   have hx' := lettersF_mid P A M hx h2.2.1
   have hlt : i < A.length := by
    unfold lettersF at hx
    split at hx
    ·cases hx
    ·rename_i f q hf
     have := letF_mid P A M ins0 hf
     omega
   rw [nx_mid P A M hlt, if_neg hc, hx']
   exact ⟨h2.1, hlt, h2.2.2⟩
theorem classF_mid {i j : Nat} {u : Ws} (h : classF A i = some (u, j)) : classF (P ++ A ++ M) (P.length + i) = some (u, P.length + j) ∧ j ≤ A.length := by
 have hl : A.length + 1 ≤ (P ++ A ++ M).length + 1 := by simp; omega
 unfold classF at h ⊢
 split at h
 ·rename_i h94
  have hlt : i < A.length := nx_lt' (by omega)
  rw [nx_mid P A M hlt, if_pos h94]
  obtain ⟨⟨x, m⟩, hx, hh⟩ := Option.map_eq_some_iff.1 h
  have h1 := classP_mid P A M hx hl
  injection hh with e1 e2
  rw [Nat.add_assoc, h1.1, ← e1, ← e2]
  exact ⟨rfl, h1.2.2⟩
 ·rename_i h94
  have h1 := classP_mid P A M h hl
  rw [nx_mid P A M h1.2.1, if_neg h94, h1.1]
  exact ⟨rfl, h1.2.2⟩
theorem atomF_mid {i j : Nat} {u : Ws} (h : atomF A i = some (u, j)) : atomF (P ++ A ++ M) (P.length + i) = some (u, P.length + j) ∧ i < A.length ∧ j ≤ A.length := by
 have hlt : i < A.length := by
  apply nx_lt'
  intro h0
  unfold atomF at h
  rw [h0] at h
  simp [letF, h0] at h
 unfold atomF at h ⊢
 rw [nx_mid P A M hlt]
 split at h
 ·rename_i h1
  rw [if_pos h1]
  injection h with h; injection h with e1 e2
  rw [← e1, ← e2]
  exact ⟨rfl, hlt, by omega⟩
 ·rename_i h1
  rw [if_neg h1]
  split at h
  ·rename_i h2
   rw [if_pos h2, Nat.add_assoc]
   have := classF_mid P A M h
   exact ⟨this.1, hlt, this.2⟩
  ·rename_i h2
   rw [if_neg h2]
   obtain ⟨⟨x, m⟩, hx, hh⟩ := Option.map_eq_some_iff.1 h
   have h3 := letF_mid P A M out0 hx
   injection hh with e1 e2
   rw [h3.1, ← e1, ← e2]
   exact ⟨rfl, hlt, h3.2.2⟩
end
theorem atomF_close {L : List UInt8} {i : Nat} (h : nx L i = 41) : atomF L i = none := by
 unfold atomF letF
 rw [h]
 have : inS OUT 41 = true := by decide
 rw [this]
 simp
theorem stepF_lt {A : List UInt8} {i j : Nat} {lo lo' : List Grp} {g g' : Grp} {f f' : Bool} (h : stepF A i lo g f = some (j, lo', g', f')) : i < A.length := by
 apply nx_lt'
 intro h0
 unfold stepF at h
 rw [h0, rep0] at h
 simp at h
 obtain ⟨a, b, hx, _⟩ := h
 exact absurd h0 (by have := (atomF_mid [] A [] hx).2.1; intro h; unfold atomF letF at hx; rw [h] at hx; simp at hx)

inductive Run (L : List UInt8) : Nat → List Grp → Grp → Bool → Nat → List Grp → Grp → Bool → Prop
 | nil (i : Nat) (lo : List Grp) (g : Grp) (f : Bool) : Run L i lo g f i lo g f
 | cons {i j k : Nat} {lo lo' lo'' : List Grp} {g g' g'' : Grp} {f f' f'' : Bool} : stepF L i lo g f = some (j, lo', g', f') → Run L j lo' g' f' k lo'' g'' f'' → Run L i lo g f k lo'' g'' f''
theorem stepF_le {L : List UInt8} {i j : Nat} {lo lo' : List Grp} {g g' : Grp} {f f' : Bool} (h : stepF L i lo g f = some (j, lo', g', f')) : j ≤ L.length := by
 have := stepF_ok (s := ⟨L.toArray⟩) (by simpa using h) (by have := stepF_lt h; simpa [ByteArray.size] using this)
 simpa [ByteArray.size] using this.2
end Go.Proofs.YtejdfpieblkapaaGreatDoor

/- Carried from another seat. -/
namespace Go.Proofs.YtejdfpieblkapaaGreatDoor
open Go.RowKit Go.Shelf

section
variable (P W : List UInt8)
def addL (ws : List Rx) : List Grp → Grp → List Grp × Grp
 | [], g => ([], ⟨ws ++ g.ways, g.row⟩)
 | h :: t, g => (⟨ws ++ h.ways, h.row⟩ :: t, g)
end

theorem step_bar {L : List UInt8} {i : Nat} (h : nx L i = 124) (lo : List Grp) (g : Grp) (f : Bool) : stepF L i lo g f = some (i + 1, lo, g.nextWay, false) := by unfold stepF; rw [if_pos h]
theorem step_open {L : List UInt8} {i : Nat} (h : nx L i = 40) (lo : List Grp) (g : Grp) (f : Bool) : stepF L i lo g f = some (i + 1, lo ++ [g], g0, false) := by
 unfold stepF; rw [if_neg (by omega), if_pos h]
theorem step_close {L : List UInt8} {i : Nat} (h : nx L i = 41) (lo : List Grp) (b g : Grp) (f : Bool) : stepF L i (lo ++ [b]) g f = some (i + 1, lo, b.put g.whole, true) := by
 unfold stepF; rw [if_neg (by omega), if_neg (by omega), if_pos ⟨h, by simp⟩]; simp
end Go.Proofs.YtejdfpieblkapaaGreatDoor

/- Carried from another seat. -/
namespace Go.Proofs.YtejdfpieblkapaaGreatDoor
open Go.RowKit Go.Shelf

inductive RunD (L : List UInt8) : Nat → List Grp → Grp → Bool → Nat → List Grp → Grp → Bool → Prop
 | nil (i : Nat) (lo : List Grp) (g : Grp) (f : Bool) : RunD L i lo g f i lo g f
 | cons {i j k : Nat} {lo lo' lo'' : List Grp} {g g' g'' : Grp} {f f' f'' : Bool} : stepF L i lo g f = some (j, lo', g', f') → lo'.length ≤ 50 → RunD L j lo' g' f' k lo'' g'' f'' → RunD L i lo g f k lo'' g'' f''
theorem RunD.run {L : List UInt8} {i j : Nat} {lo lo' : List Grp} {g g' : Grp} {f f' : Bool} (h : RunD L i lo g f j lo' g' f') : Run L i lo g f j lo' g' f' := by
 induction h with
 | nil i lo g f => exact .nil _ _ _ _
 | cons h1 _ _ ih => exact .cons h1 ih
theorem RunD.trans {L : List UInt8} {i j k : Nat} {lo lo' lo'' : List Grp} {g g' g'' : Grp} {f f' f'' : Bool} (h : RunD L i lo g f j lo' g' f') (h2 : RunD L j lo' g' f' k lo'' g'' f'') : RunD L i lo g f k lo'' g'' f'' := by
 induction h with
 | nil i lo g f => exact h2
 | cons h1 hd _ ih => exact .cons h1 hd (ih h2)

mutual
inductive FacP (L : List UInt8) : Nat → Nat → Rx → Nat → Prop
 | atom {d i j k : Nat} {s : Ws} {r : Rx} : atomF L i = some (s, j) → SufP L (.set s) j r k → FacP L d i r k
 | group {d i j k : Nat} {r0 r : Rx} : nx L i = 40 → d < 50 → OrP L (d + 1) [] (i + 1) r0 j → nx L j = 41 → SufP L r0 (j + 1) r k → FacP L d i r k
inductive SufP (L : List UInt8) : Rx → Nat → Rx → Nat → Prop
 | stop {i : Nat} {r : Rx} : inS REP (nx L i) = false → SufP L r i r i
 | more {i j : Nat} {r r' : Rx} : inS REP (nx L i) = true → SufP L (repF r (nx L i)) (i + 1) r' j → SufP L r i r' j
inductive AltP (L : List UInt8) : Nat → List Rx → Nat → List Rx → Nat → Prop
 | stop {d i : Nat} {row : List Rx} : (i = L.length ∨ nx L i = 124 ∨ nx L i = 41) → AltP L d row i row i
 | more {d i j k : Nat} {r : Rx} {row row' : List Rx} : FacP L d i r j → AltP L d (row ++ [r]) j row' k → AltP L d row i row' k
inductive OrP (L : List UInt8) : Nat → List Rx → Nat → Rx → Nat → Prop
 | last {d i j : Nat} {ways row : List Rx} : AltP L d [] i row j → nx L j ≠ 124 → OrP L d ways i (orR (ways ++ [catR row])) j
 | more {d i j k : Nat} {ways row : List Rx} {r : Rx} : AltP L d [] i row j → nx L j = 124 → OrP L d (ways ++ [catR row]) (j + 1) r k → OrP L d ways i r k
end

theorem indexByte_mem' (l : List UInt8) (c : UInt8) : 0 ≤ Lib.indexByte l c ↔ c ∈ l := by
 induction l with
 | nil => simp [Lib.indexByte]
 | cons b l ih =>
  have hr := (indexByte_range l c).1
  simp only [Lib.indexByte]
  by_cases h : b = c
  ·subst h; simp
  ·have h1 : (b == c) = false := by simpa using h
   rw [h1]
   by_cases h2 : Lib.indexByte l c = -1
   ·rw [h2] at ih ⊢
    have : c ∉ l := fun hm => by have := ih.2 hm; omega
    simp [this, Ne.symm h]
   ·have h3 : (Lib.indexByte l c == -1) = false := by simpa using h2
    rw [h3]
    have : c ∈ l := ih.1 (by omega)
    simp [this]; omega
theorem inS_mem' (sp : ByteArray) (c : Nat) : inS sp c = decide (c.toUInt8 ∈ sp.data.toList) := by
 unfold inS
 rw [Bool.eq_iff_iff, decide_eq_true_iff, decide_eq_true_iff, indexByte_mem']
theorem atomF_not {L : List UInt8} {i j : Nat} {s : Ws} (h : atomF L i = some (s, j)) : nx L i ≠ 124 ∧ nx L i ≠ 40 ∧ nx L i ≠ 41 ∧ inS REP (nx L i) = false := by
 have key : ∀ c, inS OUT c = true → c ≠ 92 → c ≠ 46 → c ≠ 91 → nx L i ≠ c := fun c hc h92 h46 h91 e => by
  unfold atomF letF at h
  rw [e, if_neg h46, if_neg h91, if_neg h92, if_pos (.inr (.inr hc))] at h
  cases h
 refine ⟨key 124 (by decide) (by decide) (by decide) (by decide), key 40 (by decide) (by decide) (by decide) (by decide), key 41 (by decide) (by decide) (by decide) (by decide), ?_⟩
 rw [inS_mem', decide_eq_false_iff_not]
 intro hm
 have h3 : (nx L i).toUInt8 = 42 ∨ (nx L i).toUInt8 = 43 ∨ (nx L i).toUInt8 = 63 := by simpa [REP] using hm
 have hl := nx_lt L i
 have hc : ∀ c : UInt8, (nx L i).toUInt8 = c → nx L i = c.toNat := fun c e => by
  rw [← e, UInt8.toNat_ofNat']; exact (Nat.mod_eq_of_lt hl).symm
 rcases h3 with h3 | h3 | h3
 ·exact key 42 (by decide) (by decide) (by decide) (by decide) (hc _ h3)
 ·exact key 43 (by decide) (by decide) (by decide) (by decide) (hc _ h3)
 ·exact key 63 (by decide) (by decide) (by decide) (by decide) (hc _ h3)
theorem rep_not {L : List UInt8} {i : Nat} (h : inS REP (nx L i) = true) : nx L i ≠ 124 ∧ nx L i ≠ 40 ∧ nx L i ≠ 41 := by
 refine ⟨fun e => ?_, fun e => ?_, fun e => ?_⟩ <;> (rw [e] at h; revert h; decide)
theorem step_atom {L : List UInt8} {i j : Nat} {s : Ws} (h : atomF L i = some (s, j)) (lo : List Grp) (g : Grp) (f : Bool) : stepF L i lo g f = some (j, lo, g.put (.set s), true) := by
 obtain ⟨h1, h2, h3, h4⟩ := atomF_not h
 unfold stepF
 rw [if_neg h1, if_neg h2, if_neg (fun hh => h3 hh.1), if_neg (fun hh => by rw [h4] at hh; cases hh.2), h]; rfl
theorem step_rep {L : List UInt8} {i : Nat} (h : inS REP (nx L i) = true) (lo : List Grp) (g : Grp) (r : Rx) : stepF L i lo (g.put r) true = some (i + 1, lo, g.put (repF r (nx L i)), true) := by
 obtain ⟨h1, h2, h3⟩ := rep_not h
 unfold stepF
 rw [if_neg h1, if_neg h2, if_neg (fun hh => h3 hh.1), if_pos ⟨rfl, h⟩]
 unfold Grp.rep Grp.put
 simp

mutual
theorem FacP.run {L : List UInt8} {d i k : Nat} {r : Rx} : FacP L d i r k → ∀ (lo : List Grp) (g : Grp) (f : Bool), lo.length = d → d ≤ 50 → RunD L i lo g f k lo (g.put r) true
 | .atom h hs, lo, g, f, hd, h50 => .cons (step_atom h lo g f) (by omega) (hs.run lo g (by omega))
 | .group h hlt ho hc hs, lo, g, f, hd, h50 => by
  obtain ⟨g1, f1, h1, h2⟩ := ho.run (lo ++ [g]) false (by simp; exact hd) (by omega)
  refine .cons (step_open h lo g f) (by simp; omega) (h1.trans (.cons (step_close hc lo g g1 f1) (by omega) ?_))
  rw [h2]
  exact hs.run lo g (by omega)
theorem SufP.run {L : List UInt8} {i j : Nat} {r r' : Rx} : SufP L r i r' j → ∀ (lo : List Grp) (g : Grp), lo.length ≤ 50 → RunD L i lo (g.put r) true j lo (g.put r') true
 | .stop _, _lo, g, _ => .nil _ _ _ _
 | .more h hs, lo, g, hd => .cons (step_rep h lo g _) hd (hs.run lo g hd)
theorem AltP.run {L : List UInt8} {d i j : Nat} {row row' : List Rx} : AltP L d row i row' j → ∀ (lo : List Grp) (ways : List Rx) (f : Bool), lo.length = d → d ≤ 50 → ∃ f', RunD L i lo ⟨ways, row⟩ f j lo ⟨ways, row'⟩ f'
 | .stop _, lo, ways, f, _, _ => ⟨f, .nil _ _ _ _⟩
 | .more hf ha, lo, ways, f, hd, h50 => by
  obtain ⟨f', h⟩ := ha.run lo ways true hd h50
  exact ⟨f', (hf.run lo ⟨ways, _⟩ f hd h50).trans h⟩
theorem OrP.run {L : List UInt8} {d i k : Nat} {ways : List Rx} {r : Rx} : OrP L d ways i r k → ∀ (lo : List Grp) (f : Bool), lo.length = d → d ≤ 50 → ∃ g f', RunD L i lo ⟨ways, []⟩ f k lo g f' ∧ g.whole = r
 | .last ha hn, lo, f, hd, h50 => by
  obtain ⟨f', h⟩ := ha.run lo ways f hd h50
  exact ⟨_, f', h, rfl⟩
 | .more ha hb ho, lo, f, hd, h50 => by
  obtain ⟨f1, h1⟩ := ha.run lo ways f hd h50
  obtain ⟨g, f2, h2, h3⟩ := ho.run lo false hd h50
  exact ⟨g, f2, h1.trans (.cons (step_bar hb lo _ f1) (by omega) h2), h3⟩
end

theorem nest_ge (mk : Rx → Rx → Rx) (hmk : ∀ a b, (mk a b).size = 1 + a.size + b.size) (r0 : Rx) (l : List Rx) : szs l ≤ (nest mk r0 l).size := by
 induction l with
 | nil => simp [szs]
 | cons a l ih =>
  cases l with
  | nil => show szs [a] ≤ a.size; rw [szs_cons, szs_nil]; omega
  | cons b l =>
   show szs (a :: b :: l) ≤ (mk a (nest mk r0 (b :: l))).size
   rw [hmk, szs_cons]; omega
theorem catR_ge (l : List Rx) : szs l ≤ (catR l).size := nest_ge _ (fun _ _ => rfl) _ l
theorem orR_ge (l : List Rx) : szs l ≤ (orR l).size := nest_ge _ (fun _ _ => rfl) _ l
theorem whole_ge (g : Grp) : g.size ≤ g.whole.size := by
 have h1 := orR_ge (g.ways ++ [catR g.row])
 have h2 := catR_ge g.row
 rw [szs_append, szs_cons, szs_nil] at h1
 show szs g.ways + szs g.row ≤ (orR (g.ways ++ [catR g.row])).size
 omega
theorem repF_ge (r : Rx) (c : Nat) : r.size ≤ (repF r c).size := by
 unfold repF
 split
 ·show r.size ≤ 1 + r.size; omega
 ·split
  ·show r.size ≤ 1 + r.size + (1 + r.size); omega
  ·show r.size ≤ 1 + r.size + 1; omega
theorem put_size (g : Grp) (r : Rx) : (g.put r).size = g.size + r.size := by
 show szs g.ways + szs (g.row ++ [r]) = szs g.ways + szs g.row + r.size
 rw [szs_append, szs_cons, szs_nil]; omega
theorem stepF_ge {L : List UInt8} {i j : Nat} {lo lo' : List Grp} {g g' : Grp} {f f' : Bool} (h : stepF L i lo g f = some (j, lo', g', f')) : gsz (lo ++ [g]) ≤ gsz (lo' ++ [g']) := by
 unfold stepF at h
 split at h
 ·injection h with h; injection h with e1 h; injection h with e2 h; injection h with e3 e4
  subst e2; subst e3
  rw [gsz_append, gsz_append, gsz_one, gsz_one]
  have e : g.nextWay.size = szs (g.ways ++ [catR g.row]) + szs [] := rfl
  have e2 : g.size = szs g.ways + szs g.row := rfl
  have := catR_ge g.row
  rw [e, szs_append, szs_cons, szs_nil]; omega
 ·split at h
  ·injection h with h; injection h with e1 h; injection h with e2 h; injection h with e3 e4
   subst e2; subst e3
   rw [gsz_append (lo ++ [g])]; omega
  ·split at h
   ·rename_i h3
    injection h with h; injection h with e1 h; injection h with e2 h; injection h with e3 e4
    subst e2; subst e3
    rcases List.eq_nil_or_concat lo with rfl | ⟨lo, b, rfl⟩
    ·exact absurd rfl h3.2
    ·rw [List.concat_eq_append]
     have := whole_ge g
     simp only [List.dropLast_concat, List.getLast?_append, List.getLast?_singleton, Option.some_or, Option.getD_some]
     rw [gsz_append, gsz_append, gsz_append, gsz_one, gsz_one, gsz_one, put_size]; omega
   ·split at h
    ·injection h with h; injection h with e1 h; injection h with e2 h; injection h with e3 e4
     subst e2; subst e3
     rw [gsz_append, gsz_append, gsz_one, gsz_one]
     have e2 : g.size = szs g.ways + szs g.row := rfl
     have e : (g.rep (nx L i)).size = szs g.ways + szs (g.row.dropLast ++ [repF (g.row.getLast?.getD .empty) (nx L i)]) := rfl
     have h5 := repF_ge (g.row.getLast?.getD .empty) (nx L i)
     rw [e, szs_append, szs_cons, szs_nil]
     rcases List.eq_nil_or_concat g.row with hr | ⟨rs, z, hr⟩
     ·rw [hr] at e2; rw [hr]; simp only [szs_nil] at e2; omega
     ·rw [List.concat_eq_append] at hr
      rw [hr, szs_append, szs_cons, szs_nil] at e2
      rw [hr] at h5 ⊢
      simp only [List.getLast?_append, List.getLast?_singleton, Option.some_or, Option.getD_some, List.dropLast_concat] at h5 ⊢
      omega
    ·obtain ⟨⟨x, m⟩, hx, hh⟩ := Option.map_eq_some_iff.1 h
     injection hh with e1 hh; injection hh with e2 hh; injection hh with e3 e4
     subst e2; subst e3
     rw [gsz_append, gsz_append, gsz_one, gsz_one, put_size]; omega
theorem RunD.ge {L : List UInt8} {i j : Nat} {lo lo' : List Grp} {g g' : Grp} {f f' : Bool} (h : RunD L i lo g f j lo' g' f') : gsz (lo ++ [g]) ≤ gsz (lo' ++ [g']) := by
 induction h with
 | nil i lo g f => exact Nat.le_refl _
 | cons h1 _ _ ih => exact Nat.le_trans (stepF_ge h1) ih
theorem RunD.runF {L : List UInt8} {i j : Nat} {lo lo' : List Grp} {g g' : Grp} {f f' : Bool} (h : RunD L i lo g f j lo' g' f') (hj : j = L.length) (hlo : lo' = []) (hsz : g'.whole.size ≤ 400) : ∀ k, L.length + 1 ≤ k + i → i ≤ L.length → runF L k i lo g f = some g'.whole := by
 induction h with
 | nil i lo g f =>
  intro k hk hi
  obtain ⟨k, rfl⟩ : ∃ m, k = m + 1 := ⟨k - 1, by omega⟩
  simp only [YtejdfpieblkapaaGreatDoor.runF]
  rw [if_neg (by omega)]
  unfold finF
  rw [if_pos hlo, if_pos hsz]
 | @cons i j k lo lo' lo'' g g' g'' f f' f'' h1 hd hr ih =>
  intro m hk hi
  have hlt := stepF_lt h1
  have hle := stepF_le h1
  have hgt := (stepF_ok (s := ⟨L.toArray⟩) (by simpa using h1) (by simpa [ByteArray.size] using hlt)).1
  obtain ⟨m, rfl⟩ : ∃ n, m = n + 1 := ⟨m - 1, by omega⟩
  simp only [YtejdfpieblkapaaGreatDoor.runF]
  rw [if_pos hlt, h1]
  have hge := hr.ge
  rw [hlo, List.nil_append, gsz_one] at hge
  have hw := whole_ge g''
  have hnh : ¬ heavy lo' g' = true := by
   intro hh
   have := of_decide_eq_true hh
   omega
  show (if heavy lo' g' = true then none else _) = _
  rw [if_neg hnh]
  exact ih hj hlo hsz m (by omega) hle
theorem OrP.parse {L : List UInt8} {r : Rx} (h : OrP L 0 [] 0 r L.length) (hsz : r.size ≤ 400) : parseF L = some r := by
 obtain ⟨g, f, h1, rfl⟩ := h.run [] false rfl (by omega)
 exact h1.runF rfl rfl hsz _ (by omega) (Nat.zero_le _)

def Dead (L : List UInt8) (i : Nat) (lo : List Grp) (g : Grp) (f : Bool) : Prop := ∀ k, runF L k i lo g f = none
theorem Dead.step {L : List UInt8} {i j : Nat} {lo lo' : List Grp} {g g' : Grp} {f f' : Bool} (h : stepF L i lo g f = some (j, lo', g', f')) (hd : Dead L j lo' g' f') : Dead L i lo g f := fun k => by
 cases k with
 | zero => rfl
 | succ k =>
  simp only [runF]
  rw [if_pos (stepF_lt h), h]
  show (if heavy lo' g' = true then none else _) = _
  split
  ·rfl
  ·exact hd k
theorem Dead.heavy {L : List UInt8} {i j : Nat} {lo lo' : List Grp} {g g' : Grp} {f f' : Bool} (h : stepF L i lo g f = some (j, lo', g', f')) (hd : heavy lo' g' = true) : Dead L i lo g f := fun k => by
 cases k with
 | zero => rfl
 | succ k =>
  simp only [runF]
  rw [if_pos (stepF_lt h), h]
  show (if _ = true then none else _) = _
  rw [if_pos hd]
theorem Dead.run {L : List UInt8} {i j : Nat} {lo lo' : List Grp} {g g' : Grp} {f f' : Bool} (h : Run L i lo g f j lo' g' f') (hd : Dead L j lo' g' f') : Dead L i lo g f := by
 induction h with
 | nil i lo g f => exact hd
 | cons h1 _ ih => exact (ih hd).step h1
theorem Dead.stuck {L : List UInt8} {i : Nat} {lo : List Grp} {g : Grp} {f : Bool} (hi : i < L.length) (h : stepF L i lo g f = none) : Dead L i lo g f := fun k => by
 cases k with
 | zero => rfl
 | succ k => simp only [runF]; rw [if_pos hi, h]
theorem Dead.open' {L : List UInt8} {lo : List Grp} {g : Grp} {f : Bool} (h : lo ≠ []) : Dead L L.length lo g f := fun k => by
 cases k with
 | zero => rfl
 | succ k => simp only [runF]; rw [if_neg (by omega)]; unfold finF; rw [if_neg h]
theorem Dead.close {L : List UInt8} {i : Nat} {g : Grp} {f : Bool} (h : nx L i = 41) : Dead L i [] g f := by
 refine Dead.stuck (nx_lt' (by omega)) ?_
 unfold stepF
 rw [if_neg (by omega), if_neg (by omega), if_neg (fun hh => hh.2 rfl), if_neg (fun hh => by rw [h] at hh; exact absurd hh.2 (by decide)), atomF_close h]; rfl
theorem Dead.atom {L : List UInt8} {i : Nat} {lo : List Grp} {g : Grp} (hi : i < L.length) (h : atomF L i = none) (h1 : nx L i ≠ 124) (h2 : nx L i ≠ 40) (h3 : nx L i ≠ 41) {f : Bool} (hf : f = true → inS REP (nx L i) = false) : Dead L i lo g f := by
 refine Dead.stuck hi ?_
 unfold stepF
 rw [if_neg h1, if_neg h2, if_neg (fun hh => h3 hh.1), if_neg (fun hh => by rw [hf hh.1] at hh; cases hh.2), h]; rfl
end Go.Proofs.YtejdfpieblkapaaGreatDoor
