/- Carried from another seat. -/
import Derived.Test.YtejdfpieblkapaaGreatDoorM30
namespace Go.Proofs.YtejdfpieblkapaaGreatDoor
open Go.RowKit Go.Shelf

theorem nx_out {L : List UInt8} {i : Nat} (h : L.length ≤ i) : nx L i = 0 := by
  unfold nx; rw [List.getElem?_eq_none h]; rfl
theorem nx_lt' {L : List UInt8} {i : Nat} (h : nx L i ≠ 0) : i < L.length := by
  rcases Nat.lt_or_ge i L.length with h' | h'
  · exact h'
  · exact absurd (nx_out h') h
/-- A text with something ahead and something behind. -/
theorem nx_mid (P A M : List UInt8) {i : Nat} (h : i < A.length) : nx (P ++ A ++ M) (P.length + i) = nx A i := by
  unfold nx
  rw [List.append_assoc, List.getElem?_append_right (by omega), Nat.add_sub_cancel_left, List.getElem?_append_left h]
theorem nx_sfx (P A : List UInt8) (i : Nat) : nx (P ++ A) (P.length + i) = nx A i := by
  unfold nx
  rw [List.getElem?_append_right (by omega), Nat.add_sub_cancel_left]

section
variable (P A M : List UInt8)
theorem hexP_mid {i k n : Nat} (h : hexP A i k = some n) : hexP (P ++ A ++ M) (P.length + i) k = some n ∧ (0 < k → i + k ≤ A.length) := by
  induction k generalizing n with
  | zero => exact ⟨h, fun h => absurd h (by omega)⟩
  | succ k ih =>
    simp only [hexP] at h ⊢
    obtain ⟨m, hm, hh⟩ := Option.bind_eq_some_iff.1 h
    have hlt : i + k < A.length := by
      apply nx_lt'
      intro h0
      rw [h0] at hh
      have : Lib.indexByte HX.data.toList (0 : Nat).toUInt8 < 0 := by decide
      rw [if_pos this] at hh
      cases hh
    rw [(ih hm).1, Nat.add_assoc, nx_mid P A M hlt]
    exact ⟨hh, fun _ => by omega⟩
theorem escF_mid {sp : ByteArray} (hsp : inS sp 0 = false) {i b j : Nat} (h : escF sp A i = some (b, j)) : escF sp (P ++ A ++ M) (P.length + i) = some (b, P.length + j) ∧ j ≤ A.length := by
  have hlt : i < A.length := by
    apply nx_lt'
    intro h0
    unfold escF at h
    rw [h0, hsp] at h
    simp at h
  unfold escF at h ⊢
  rw [nx_mid P A M hlt]
  split at h
  · rename_i h1
    rw [if_pos h1]
    unfold hexF at h ⊢
    obtain ⟨n, hn, hh⟩ := Option.map_eq_some_iff.1 h
    injection hh with e1 e2
    obtain ⟨h2, h3⟩ := hexP_mid P A M hn
    rw [show P.length + i + 1 = P.length + (i + 1) by omega, h2, ← e1, ← e2]
    exact ⟨rfl, by have := h3 (by omega); omega⟩
  · rename_i h1
    rw [if_neg h1]
    split at h
    · rename_i h2; rw [if_pos h2]; injection h with h; injection h with e1 e2; rw [← e1, ← e2]; exact ⟨rfl, by omega⟩
    · rename_i h2
      rw [if_neg h2]
      split at h
      · rename_i h3; rw [if_pos h3]; injection h with h; injection h with e1 e2; rw [← e1, ← e2]; exact ⟨rfl, by omega⟩
      · rename_i h3
        rw [if_neg h3]
        split at h
        · rename_i h4; rw [if_pos h4]; injection h with h; injection h with e1 e2; rw [← e1, ← e2]; exact ⟨rfl, by omega⟩
        · rename_i h4
          rw [if_neg h4]
          split at h
          · rename_i h5; rw [if_pos h5]; injection h with h; injection h with e1 e2; rw [← e1, ← e2]; exact ⟨rfl, by omega⟩
          · cases h
theorem letF_mid {sp : ByteArray} (hsp : inS sp 0 = false) {i b j : Nat} (h : letF sp A i = some (b, j)) : letF sp (P ++ A ++ M) (P.length + i) = some (b, P.length + j) ∧ i < j ∧ j ≤ A.length := by
  have hlt : i < A.length := by
    apply nx_lt'
    intro h0
    unfold letF at h
    rw [h0] at h
    simp at h
  unfold letF at h ⊢
  rw [nx_mid P A M hlt]
  split at h
  · rename_i h1
    rw [if_pos h1, Nat.add_assoc]
    have := escF_mid P A M hsp h
    refine ⟨this.1, ?_, this.2⟩
    unfold escF at h
    (repeat' split at h) <;> first | (injection h with h; injection h with e1 e2; omega) | (cases h) | skip
    unfold hexF at h
    obtain ⟨n, hn, hh⟩ := Option.map_eq_some_iff.1 h
    injection hh with e1 e2
    omega
  · rename_i h1
    rw [if_neg h1]
    split at h
    · cases h
    · rename_i h2
      rw [if_neg h2]
      injection h with h; injection h with e1 e2
      rw [← e1, ← e2]
      exact ⟨rfl, by omega, by omega⟩
theorem lettersF_mid {i j : Nat} {t : Ws} (h : lettersF A i = some (t, j)) (hj : j < A.length) : lettersF (P ++ A ++ M) (P.length + i) = some (t, P.length + j) := by
  unfold lettersF at h ⊢
  split at h
  · cases h
  · rename_i f k hf
    have h1 := letF_mid P A M ins0 hf
    rw [h1.1]
    have hk : k < A.length := by
      split at h
      · rename_i h45
        exact nx_lt' (by omega)
      · injection h with h; injection h with e1 e2; omega
    show (if nx (P ++ A ++ M) (P.length + k) = 45 then _ else _) = _
    rw [nx_mid P A M hk]
    split at h
    · rename_i h45
      rw [if_pos h45]
      split at h
      · cases h
      · rename_i g m hg
        have h3 := letF_mid P A M ins0 hg
        rw [Nat.add_assoc, h3.1]
        split at h
        · cases h
        · rename_i h4
          injection h with h; injection h with e1 e2
          show (if g < f then none else some (btw f (g + 1 - f), P.length + m)) = _
          rw [if_neg h4, ← e1, ← e2]
    · rename_i h45
      rw [if_neg h45]
      injection h with h; injection h with e1 e2
      rw [← e1, ← e2]
theorem classP_mid {k k' i j : Nat} {t u : Ws} (h : classP A k t i = some (u, j)) (hk : k ≤ k') : classP (P ++ A ++ M) k' t (P.length + i) = some (u, P.length + j) ∧ i < A.length ∧ j ≤ A.length := by
  induction k generalizing i t k' with
  | zero => simp [classP] at h
  | succ k ih =>
    obtain ⟨k', rfl⟩ : ∃ m, k' = m + 1 := ⟨k' - 1, by omega⟩
    simp only [classP] at h ⊢
    split at h
    · rename_i hc
      have hlt : i < A.length := nx_lt' (by omega)
      rw [nx_mid P A M hlt, if_pos hc]
      injection h with h; injection h with e1 e2
      rw [← e1, ← e2]
      exact ⟨rfl, hlt, by omega⟩
    · rename_i hc
      obtain ⟨⟨x, m⟩, hx, hh⟩ := Option.bind_eq_some_iff.1 h
      have h2 := ih hh (show k ≤ k' by omega)
      have hx' := lettersF_mid P A M hx h2.2.1
      have hlt : i < A.length := by
        unfold lettersF at hx
        split at hx
        · cases hx
        · rename_i f q hf
          have := letF_mid P A M ins0 hf
          omega
      rw [nx_mid P A M hlt, if_neg hc, hx']
      exact ⟨h2.1, hlt, h2.2.2⟩
theorem classF_mid {i j : Nat} {u : Ws} (h : classF A i = some (u, j)) : classF (P ++ A ++ M) (P.length + i) = some (u, P.length + j) ∧ j ≤ A.length := by
  have hl : A.length + 1 ≤ (P ++ A ++ M).length + 1 := by simp; omega
  unfold classF at h ⊢
  split at h
  · rename_i h94
    have hlt : i < A.length := nx_lt' (by omega)
    rw [nx_mid P A M hlt, if_pos h94]
    obtain ⟨⟨x, m⟩, hx, hh⟩ := Option.map_eq_some_iff.1 h
    have h1 := classP_mid P A M hx hl
    injection hh with e1 e2
    rw [Nat.add_assoc, h1.1, ← e1, ← e2]
    exact ⟨rfl, h1.2.2⟩
  · rename_i h94
    have h1 := classP_mid P A M h hl
    rw [nx_mid P A M h1.2.1, if_neg h94, h1.1]
    exact ⟨rfl, h1.2.2⟩
theorem atomF_mid {i j : Nat} {u : Ws} (h : atomF A i = some (u, j)) : atomF (P ++ A ++ M) (P.length + i) = some (u, P.length + j) ∧ i < A.length ∧ j ≤ A.length := by
  have hlt : i < A.length := by
    apply nx_lt'
    intro h0
    unfold atomF at h
    rw [h0] at h
    simp [letF, h0] at h
  unfold atomF at h ⊢
  rw [nx_mid P A M hlt]
  split at h
  · rename_i h1
    rw [if_pos h1]
    injection h with h; injection h with e1 e2
    rw [← e1, ← e2]
    exact ⟨rfl, hlt, by omega⟩
  · rename_i h1
    rw [if_neg h1]
    split at h
    · rename_i h2
      rw [if_pos h2, Nat.add_assoc]
      have := classF_mid P A M h
      exact ⟨this.1, hlt, this.2⟩
    · rename_i h2
      rw [if_neg h2]
      obtain ⟨⟨x, m⟩, hx, hh⟩ := Option.map_eq_some_iff.1 h
      have h3 := letF_mid P A M out0 hx
      injection hh with e1 e2
      rw [h3.1, ← e1, ← e2]
      exact ⟨rfl, hlt, h3.2.2⟩
end
theorem atomF_close {L : List UInt8} {i : Nat} (h : nx L i = 41) : atomF L i = none := by
  unfold atomF letF
  rw [h]
  have : inS OUT 41 = true := by decide
  rw [this]
  simp
theorem stepF_lt {A : List UInt8} {i j : Nat} {lo lo' : List Grp} {g g' : Grp} {f f' : Bool} (h : stepF A i lo g f = some (j, lo', g', f')) : i < A.length := by
  apply nx_lt'
  intro h0
  unfold stepF at h
  rw [h0, rep0] at h
  simp at h
  obtain ⟨a, b, hx, _⟩ := h
  exact absurd h0 (by have := (atomF_mid [] A [] hx).2.1; intro h; unfold atomF letF at hx; rw [h] at hx; simp at hx)

theorem getLast_app {α : Type} (a : List α) {b : List α} (h : b ≠ []) : (a ++ b).getLast? = b.getLast? := by
  rcases List.eq_nil_or_concat b with rfl | ⟨b, z, rfl⟩
  · exact absurd rfl h
  · rw [List.concat_eq_append, ← List.append_assoc]; simp
/-- A step, in a longer text and with groups below. -/
theorem stepF_mid (P A M : List UInt8) (U : List Grp) {i j : Nat} {lo lo' : List Grp} {g g' : Grp} {f f' : Bool} (h : stepF A i lo g f = some (j, lo', g', f')) :
    stepF (P ++ A ++ M) (P.length + i) (U ++ lo) g f = some (P.length + j, U ++ lo', g', f') := by
  have hlt := stepF_lt h
  unfold stepF at h ⊢
  rw [nx_mid P A M hlt]
  split at h
  · rename_i h1
    rw [if_pos h1]
    injection h with h; injection h with e1 h; injection h with e2 h; injection h with e3 e4
    rw [← e1, ← e2, ← e3, ← e4]; rfl
  · rename_i h1
    rw [if_neg h1]
    split at h
    · rename_i h2
      rw [if_pos h2]
      injection h with h; injection h with e1 h; injection h with e2 h; injection h with e3 e4
      rw [← e1, ← e2, ← e3, ← e4, List.append_assoc]; rfl
    · rename_i h2
      rw [if_neg h2]
      split at h
      · rename_i h3
        have hne : U ++ lo ≠ [] := fun e => h3.2 (List.append_eq_nil_iff.1 e).2
        rw [if_pos ⟨h3.1, hne⟩]
        injection h with h; injection h with e1 h; injection h with e2 h; injection h with e3 e4
        rw [← e1, ← e2, ← e3, ← e4, List.dropLast_append_of_ne_nil h3.2, getLast_app _ h3.2]; rfl
      · rename_i h3
        by_cases h41 : nx A i = 41
        · exfalso
          rw [atomF_close h41, h41] at h
          have : inS REP 41 = false := by decide
          rw [this] at h
          simp at h
        · rw [if_neg (fun hh => h41 hh.1)]
          split at h
          · rename_i h4
            rw [if_pos h4]
            injection h with h; injection h with e1 h; injection h with e2 h; injection h with e3 e4
            rw [← e1, ← e2, ← e3, ← e4]; rfl
          · rename_i h4
            rw [if_neg h4]
            obtain ⟨⟨x, m⟩, hx, hh⟩ := Option.map_eq_some_iff.1 h
            injection hh with e1 hh; injection hh with e2 hh; injection hh with e3 e4
            rw [(atomF_mid P A M hx).1, ← e1, ← e2, ← e3, ← e4]; rfl

/-- Steps, one behind the other. -/
inductive Run (L : List UInt8) : Nat → List Grp → Grp → Bool → Nat → List Grp → Grp → Bool → Prop
  | nil (i : Nat) (lo : List Grp) (g : Grp) (f : Bool) : Run L i lo g f i lo g f
  | cons {i j k : Nat} {lo lo' lo'' : List Grp} {g g' g'' : Grp} {f f' f'' : Bool} : stepF L i lo g f = some (j, lo', g', f') → Run L j lo' g' f' k lo'' g'' f'' → Run L i lo g f k lo'' g'' f''
theorem Run.mid (P A M : List UInt8) (U : List Grp) {i j : Nat} {lo lo' : List Grp} {g g' : Grp} {f f' : Bool} (h : Run A i lo g f j lo' g' f') : Run (P ++ A ++ M) (P.length + i) (U ++ lo) g f (P.length + j) (U ++ lo') g' f' := by
  induction h with
  | nil i lo g f => exact .nil _ _ _ _
  | cons h1 _ ih => exact .cons (stepF_mid P A M U h1) ih
theorem Run.trans {L : List UInt8} {i j k : Nat} {lo lo' lo'' : List Grp} {g g' g'' : Grp} {f f' f'' : Bool} (h : Run L i lo g f j lo' g' f') (h2 : Run L j lo' g' f' k lo'' g'' f'') : Run L i lo g f k lo'' g'' f'' := by
  induction h with
  | nil i lo g f => exact h2
  | cons h1 _ ih => exact .cons h1 (ih h2)
/-- A run that ends where there is no step goes by every other one. -/
theorem Run.by' {L : List UInt8} {i j k : Nat} {lo lo' lo'' : List Grp} {g g' g'' : Grp} {f f' f'' : Bool} (h : Run L i lo g f j lo' g' f') (h2 : Run L i lo g f k lo'' g'' f'') (hend : stepF L k lo'' g'' f'' = none) : Run L j lo' g' f' k lo'' g'' f'' := by
  induction h with
  | nil i lo g f => exact h2
  | cons h1 _ ih =>
    cases h2 with
    | nil => rw [hend] at h1; cases h1
    | cons h3 h4 =>
      rw [h1] at h3
      injection h3 with h3; injection h3 with e1 h3; injection h3 with e2 h3; injection h3 with e3 e4
      subst e1; subst e2; subst e3; subst e4
      exact ih h4
theorem runF_run {L : List UInt8} {k i : Nat} {lo : List Grp} {g : Grp} {f : Bool} {r : Rx} (h : runF L k i lo g f = some r) (hi : i ≤ L.length) (hle : ∀ i lo g f j lo' g' f', stepF L i lo g f = some (j, lo', g', f') → j ≤ L.length) : ∃ g' f', Run L i lo g f L.length [] g' f' ∧ r = g'.whole := by
  induction k generalizing i lo g f with
  | zero => simp [runF] at h
  | succ k ih =>
    simp only [runF] at h
    split at h
    · split at h
      · cases h
      · rename_i j lo' g' f' hs
        split at h
        · cases h
        · obtain ⟨g2, f2, h1, h2⟩ := ih h (hle _ _ _ _ _ _ _ _ hs)
          exact ⟨g2, f2, .cons hs h1, h2⟩
    · unfold finF at h
      split at h
      · rename_i hlo
        split at h
        · injection h with h
          have : i = L.length := by omega
          subst this; subst hlo
          exact ⟨g, f, .nil _ _ _ _, h.symm⟩
        · cases h
      · cases h
theorem stepF_le {L : List UInt8} {i j : Nat} {lo lo' : List Grp} {g g' : Grp} {f f' : Bool} (h : stepF L i lo g f = some (j, lo', g', f')) : j ≤ L.length := by
  have := stepF_ok (s := ⟨L.toArray⟩) (by simpa using h) (by have := stepF_lt h; simpa [ByteArray.size] using this)
  simpa [ByteArray.size] using this.2
theorem parseF_run {L : List UInt8} {r : Rx} (h : parseF L = some r) : ∃ g f, Run L 0 [] g0 false L.length [] g f ∧ r = g.whole := runF_run h (Nat.zero_le _) (fun _ _ _ _ _ _ _ _ h => stepF_le h)
theorem stepF_end {L : List UInt8} {lo : List Grp} {g : Grp} {f : Bool} : stepF L L.length lo g f = none := by
  cases h : stepF L L.length lo g f with
  | none => rfl
  | some x => obtain ⟨j, lo', g', f'⟩ := x; have := stepF_lt h; omega
end Go.Proofs.YtejdfpieblkapaaGreatDoor
