/- Carried from another seat. -/
import Derived.Test.YtejdfpieblkapaaGreatDoorM30
namespace Go.Proofs.YtejdfpieblkapaaGreatDoor
open Go.RowKit Go.Shelf

theorem nx_out {L : List UInt8} {i : Nat} (h : L.length ≤ i) : nx L i = 0 := by
  unfold nx; rw [List.getElem?_eq_none h]; rfl
theorem nx_lt' {L : List UInt8} {i : Nat} (h : nx L i ≠ 0) : i < L.length := by
  rcases Nat.lt_or_ge i L.length with h' | h'
  · exact h'
  · exact absurd (nx_out h') h
/-- A text with something ahead and something behind. -/
theorem nx_mid (P A M : List UInt8) {i : Nat} (h : i < A.length) : nx (P ++ A ++ M) (P.length + i) = nx A i := by
  unfold nx
  rw [List.append_assoc, List.getElem?_append_right (by omega), Nat.add_sub_cancel_left, List.getElem?_append_left h]
theorem nx_sfx (P A : List UInt8) (i : Nat) : nx (P ++ A) (P.length + i) = nx A i := by
  unfold nx
  rw [List.getElem?_append_right (by omega), Nat.add_sub_cancel_left]

section
variable (P A M : List UInt8)
theorem hexP_mid {i k n : Nat} (h : hexP A i k = some n) : hexP (P ++ A ++ M) (P.length + i) k = some n ∧ (0 < k → i + k ≤ A.length) := by
  induction k generalizing n with
  | zero => exact ⟨h, fun h => absurd h (by omega)⟩
  | succ k ih =>
    simp only [hexP] at h ⊢
    obtain ⟨m, hm, hh⟩ := Option.bind_eq_some_iff.1 h
    have hlt : i + k < A.length := by
      apply nx_lt'
      intro h0
      rw [h0] at hh
      have : Lib.indexByte HX.data.toList (0 : Nat).toUInt8 < 0 := by decide
      rw [if_pos this] at hh
      cases hh
    rw [(ih hm).1, Nat.add_assoc, nx_mid P A M hlt]
    exact ⟨hh, fun _ => by omega⟩
theorem escF_mid {sp : ByteArray} (hsp : inS sp 0 = false) {i b j : Nat} (h : escF sp A i = some (b, j)) : escF sp (P ++ A ++ M) (P.length + i) = some (b, P.length + j) ∧ j ≤ A.length := by
  have hlt : i < A.length := by
    apply nx_lt'
    intro h0
    unfold escF at h
    rw [h0, hsp] at h
    simp at h
  unfold escF at h ⊢
  rw [nx_mid P A M hlt]
  split at h
  · rename_i h1
    rw [if_pos h1]
    unfold hexF at h ⊢
    obtain ⟨n, hn, hh⟩ := Option.map_eq_some_iff.1 h
    injection hh with e1 e2
    obtain ⟨h2, h3⟩ := hexP_mid P A M hn
    rw [show P.length + i + 1 = P.length + (i + 1) by omega, h2, ← e1, ← e2]
    exact ⟨rfl, by have := h3 (by omega); omega⟩
  · rename_i h1
    rw [if_neg h1]
    split at h
    · rename_i h2; rw [if_pos h2]; injection h with h; injection h with e1 e2; rw [← e1, ← e2]; exact ⟨rfl, by omega⟩
    · rename_i h2
      rw [if_neg h2]
      split at h
      · rename_i h3; rw [if_pos h3]; injection h with h; injection h with e1 e2; rw [← e1, ← e2]; exact ⟨rfl, by omega⟩
      · rename_i h3
        rw [if_neg h3]
        split at h
        · rename_i h4; rw [if_pos h4]; injection h with h; injection h with e1 e2; rw [← e1, ← e2]; exact ⟨rfl, by omega⟩
        · rename_i h4
          rw [if_neg h4]
          split at h
          · rename_i h5; rw [if_pos h5]; injection h with h; injection h with e1 e2; rw [← e1, ← e2]; exact ⟨rfl, by omega⟩
          · cases h
theorem letF_mid {sp : ByteArray} (hsp : inS sp 0 = false) {i b j : Nat} (h : letF sp A i = some (b, j)) : letF sp (P ++ A ++ M) (P.length + i) = some (b, P.length + j) ∧ i < j ∧ j ≤ A.length := by
  have hlt : i < A.length := by
    apply nx_lt'
    intro h0
    unfold letF at h
    rw [h0] at h
    simp at h
  unfold letF at h ⊢
  rw [nx_mid P A M hlt]
  split at h
  · rename_i h1
    rw [if_pos h1, Nat.add_assoc]
    have := escF_mid P A M hsp h
    refine ⟨this.1, ?_, this.2⟩
    unfold escF at h
    (repeat' split at h) <;> first | (injection h with h; injection h with e1 e2; omega) | (cases h) | skip
    unfold hexF at h
    obtain ⟨n, hn, hh⟩ := Option.map_eq_some_iff.1 h
    injection hh with e1 e2
    omega
  · rename_i h1
    rw [if_neg h1]
    split at h
    · cases h
    · rename_i h2
      rw [if_neg h2]
      injection h with h; injection h with e1 e2
      rw [← e1, ← e2]
      exact ⟨rfl, by omega, by omega⟩
theorem lettersF_mid {i j : Nat} {t : Ws} (h : lettersF A i = some (t, j)) (hj : j < A.length) : lettersF (P ++ A ++ M) (P.length + i) = some (t, P.length + j) := by
  unfold lettersF at h ⊢
  split at h
  · cases h
  · rename_i f k hf
    have h1 := letF_mid P A M ins0 hf
    rw [h1.1]
    have hk : k < A.length := by
      split at h
      · rename_i h45
        exact nx_lt' (by omega)
      · injection h with h; injection h with e1 e2; omega
    show (if nx (P ++ A ++ M) (P.length + k) = 45 then _ else _) = _
    rw [nx_mid P A M hk]
    split at h
    · rename_i h45
      rw [if_pos h45]
      split at h
      · cases h
      · rename_i g m hg
        have h3 := letF_mid P A M ins0 hg
        rw [Nat.add_assoc, h3.1]
        split at h
        · cases h
        · rename_i h4
          injection h with h; injection h with e1 e2
          show (if g < f then none else some (btw f (g + 1 - f), P.length + m)) = _
          rw [if_neg h4, ← e1, ← e2]
    · rename_i h45
      rw [if_neg h45]
      injection h with h; injection h with e1 e2
      rw [← e1, ← e2]
theorem classP_mid {k k' i j : Nat} {t u : Ws} (h : classP A k t i = some (u, j)) (hk : k ≤ k') : classP (P ++ A ++ M) k' t (P.length + i) = some (u, P.length + j) ∧ i < A.length ∧ j ≤ A.length := by
  induction k generalizing i t k' with
  | zero => simp [classP] at h
  | succ k ih =>
    obtain ⟨k', rfl⟩ : ∃ m, k' = m + 1 := ⟨k' - 1, by omega⟩
    simp only [classP] at h ⊢
    split at h
    · rename_i hc
      have hlt : i < A.length := nx_lt' (by omega)
      rw [nx_mid P A M hlt, if_pos hc]
      injection h with h; injection h with e1 e2
      rw [← e1, ← e2]
      exact ⟨rfl, hlt, by omega⟩
    · rename_i hc
      obtain ⟨⟨x, m⟩, hx, hh⟩ := Option.bind_eq_some_iff.1 h
      have h2 := ih hh (show k ≤ k' by omega)
      have hx' := lettersF_mid P A M hx h2.2.1
      have hlt : i < A.length := by
        unfold lettersF at hx
        split at hx
        · cases hx
        · rename_i f q hf
          have := letF_mid P A M ins0 hf
          omega
      rw [nx_mid P A M hlt, if_neg hc, hx']
      exact ⟨h2.1, hlt, h2.2.2⟩
theorem classF_mid {i j : Nat} {u : Ws} (h : classF A i = some (u, j)) : classF (P ++ A ++ M) (P.length + i) = some (u, P.length + j) ∧ j ≤ A.length := by
  have hl : A.length + 1 ≤ (P ++ A ++ M).length + 1 := by simp; omega
  unfold classF at h ⊢
  split at h
  · rename_i h94
    have hlt : i < A.length := nx_lt' (by omega)
    rw [nx_mid P A M hlt, if_pos h94]
    obtain ⟨⟨x, m⟩, hx, hh⟩ := Option.map_eq_some_iff.1 h
    have h1 := classP_mid P A M hx hl
    injection hh with e1 e2
    rw [Nat.add_assoc, h1.1, ← e1, ← e2]
    exact ⟨rfl, h1.2.2⟩
  · rename_i h94
    have h1 := classP_mid P A M h hl
    rw [nx_mid P A M h1.2.1, if_neg h94, h1.1]
    exact ⟨rfl, h1.2.2⟩
theorem atomF_mid {i j : Nat} {u : Ws} (h : atomF A i = some (u, j)) : atomF (P ++ A ++ M) (P.length + i) = some (u, P.length + j) ∧ i < A.length ∧ j ≤ A.length := by
  have hlt : i < A.length := by
    apply nx_lt'
    intro h0
    unfold atomF at h
    rw [h0] at h
    simp [letF, h0] at h
  unfold atomF at h ⊢
  rw [nx_mid P A M hlt]
  split at h
  · rename_i h1
    rw [if_pos h1]
    injection h with h; injection h with e1 e2
    rw [← e1, ← e2]
    exact ⟨rfl, hlt, by omega⟩
  · rename_i h1
    rw [if_neg h1]
    split at h
    · rename_i h2
      rw [if_pos h2, Nat.add_assoc]
      have := classF_mid P A M h
      exact ⟨this.1, hlt, this.2⟩
    · rename_i h2
      rw [if_neg h2]
      obtain ⟨⟨x, m⟩, hx, hh⟩ := Option.map_eq_some_iff.1 h
      have h3 := letF_mid P A M out0 hx
      injection hh with e1 e2
      rw [h3.1, ← e1, ← e2]
      exact ⟨rfl, hlt, h3.2.2⟩
end
theorem atomF_close {L : List UInt8} {i : Nat} (h : nx L i = 41) : atomF L i = none := by
  unfold atomF letF
  rw [h]
  have : inS OUT 41 = true := by decide
  rw [this]
  simp
theorem stepF_lt {A : List UInt8} {i j : Nat} {lo lo' : List Grp} {g g' : Grp} {f f' : Bool} (h : stepF A i lo g f = some (j, lo', g', f')) : i < A.length := by
  apply nx_lt'
  intro h0
  unfold stepF at h
  rw [h0, rep0] at h
  simp at h
  obtain ⟨a, b, hx, _⟩ := h
  exact absurd h0 (by have := (atomF_mid [] A [] hx).2.1; intro h; unfold atomF letF at hx; rw [h] at hx; simp at hx)

theorem getLast_app {α : Type} (a : List α) {b : List α} (h : b ≠ []) : (a ++ b).getLast? = b.getLast? := by
  rcases List.eq_nil_or_concat b with rfl | ⟨b, z, rfl⟩
  · exact absurd rfl h
  · rw [List.concat_eq_append, ← List.append_assoc]; simp
/-- A step, in a longer text and with groups below. -/
theorem stepF_mid (P A M : List UInt8) (U : List Grp) {i j : Nat} {lo lo' : List Grp} {g g' : Grp} {f f' : Bool} (h : stepF A i lo g f = some (j, lo', g', f')) :
    stepF (P ++ A ++ M) (P.length + i) (U ++ lo) g f = some (P.length + j, U ++ lo', g', f') := by
  have hlt := stepF_lt h
  unfold stepF at h ⊢
  rw [nx_mid P A M hlt]
  split at h
  · rename_i h1
    rw [if_pos h1]
    injection h with h; injection h with e1 h; injection h with e2 h; injection h with e3 e4
    rw [← e1, ← e2, ← e3, ← e4]; rfl
  · rename_i h1
    rw [if_neg h1]
    split at h
    · rename_i h2
      rw [if_pos h2]
      injection h with h; injection h with e1 h; injection h with e2 h; injection h with e3 e4
      rw [← e1, ← e2, ← e3, ← e4, List.append_assoc]; rfl
    · rename_i h2
      rw [if_neg h2]
      split at h
      · rename_i h3
        have hne : U ++ lo ≠ [] := fun e => h3.2 (List.append_eq_nil_iff.1 e).2
        rw [if_pos ⟨h3.1, hne⟩]
        injection h with h; injection h with e1 h; injection h with e2 h; injection h with e3 e4
        rw [← e1, ← e2, ← e3, ← e4, List.dropLast_append_of_ne_nil h3.2, getLast_app _ h3.2]; rfl
      · rename_i h3
        by_cases h41 : nx A i = 41
        · exfalso
          rw [atomF_close h41, h41] at h
          have : inS REP 41 = false := by decide
          rw [this] at h
          simp at h
        · rw [if_neg (fun hh => h41 hh.1)]
          split at h
          · rename_i h4
            rw [if_pos h4]
            injection h with h; injection h with e1 h; injection h with e2 h; injection h with e3 e4
            rw [← e1, ← e2, ← e3, ← e4]; rfl
          · rename_i h4
            rw [if_neg h4]
            obtain ⟨⟨x, m⟩, hx, hh⟩ := Option.map_eq_some_iff.1 h
            injection hh with e1 hh; injection hh with e2 hh; injection hh with e3 e4
            rw [(atomF_mid P A M hx).1, ← e1, ← e2, ← e3, ← e4]; rfl

/-- Steps, one behind the other. -/
inductive Run (L : List UInt8) : Nat → List Grp → Grp → Bool → Nat → List Grp → Grp → Bool → Prop
  | nil (i : Nat) (lo : List Grp) (g : Grp) (f : Bool) : Run L i lo g f i lo g f
  | cons {i j k : Nat} {lo lo' lo'' : List Grp} {g g' g'' : Grp} {f f' f'' : Bool} : stepF L i lo g f = some (j, lo', g', f') → Run L j lo' g' f' k lo'' g'' f'' → Run L i lo g f k lo'' g'' f''
theorem Run.mid (P A M : List UInt8) (U : List Grp) {i j : Nat} {lo lo' : List Grp} {g g' : Grp} {f f' : Bool} (h : Run A i lo g f j lo' g' f') : Run (P ++ A ++ M) (P.length + i) (U ++ lo) g f (P.length + j) (U ++ lo') g' f' := by
  induction h with
  | nil i lo g f => exact .nil _ _ _ _
  | cons h1 _ ih => exact .cons (stepF_mid P A M U h1) ih
theorem Run.trans {L : List UInt8} {i j k : Nat} {lo lo' lo'' : List Grp} {g g' g'' : Grp} {f f' f'' : Bool} (h : Run L i lo g f j lo' g' f') (h2 : Run L j lo' g' f' k lo'' g'' f'') : Run L i lo g f k lo'' g'' f'' := by
  induction h with
  | nil i lo g f => exact h2
  | cons h1 _ ih => exact .cons h1 (ih h2)
/-- A run that ends where there is no step goes by every other one. -/
theorem Run.by' {L : List UInt8} {i j k : Nat} {lo lo' lo'' : List Grp} {g g' g'' : Grp} {f f' f'' : Bool} (h : Run L i lo g f j lo' g' f') (h2 : Run L i lo g f k lo'' g'' f'') (hend : stepF L k lo'' g'' f'' = none) : Run L j lo' g' f' k lo'' g'' f'' := by
  induction h with
  | nil i lo g f => exact h2
  | cons h1 _ ih =>
    cases h2 with
    | nil => rw [hend] at h1; cases h1
    | cons h3 h4 =>
      rw [h1] at h3
      injection h3 with h3; injection h3 with e1 h3; injection h3 with e2 h3; injection h3 with e3 e4
      subst e1; subst e2; subst e3; subst e4
      exact ih h4
theorem runF_run {L : List UInt8} {k i : Nat} {lo : List Grp} {g : Grp} {f : Bool} {r : Rx} (h : runF L k i lo g f = some r) (hi : i ≤ L.length) (hle : ∀ i lo g f j lo' g' f', stepF L i lo g f = some (j, lo', g', f') → j ≤ L.length) : ∃ g' f', Run L i lo g f L.length [] g' f' ∧ r = g'.whole := by
  induction k generalizing i lo g f with
  | zero => simp [runF] at h
  | succ k ih =>
    simp only [runF] at h
    split at h
    · split at h
      · cases h
      · rename_i j lo' g' f' hs
        split at h
        · cases h
        · obtain ⟨g2, f2, h1, h2⟩ := ih h (hle _ _ _ _ _ _ _ _ hs)
          exact ⟨g2, f2, .cons hs h1, h2⟩
    · unfold finF at h
      split at h
      · rename_i hlo
        split at h
        · injection h with h
          have : i = L.length := by omega
          subst this; subst hlo
          exact ⟨g, f, .nil _ _ _ _, h.symm⟩
        · cases h
      · cases h
theorem stepF_le {L : List UInt8} {i j : Nat} {lo lo' : List Grp} {g g' : Grp} {f f' : Bool} (h : stepF L i lo g f = some (j, lo', g', f')) : j ≤ L.length := by
  have := stepF_ok (s := ⟨L.toArray⟩) (by simpa using h) (by have := stepF_lt h; simpa [ByteArray.size] using this)
  simpa [ByteArray.size] using this.2
theorem parseF_run {L : List UInt8} {r : Rx} (h : parseF L = some r) : ∃ g f, Run L 0 [] g0 false L.length [] g f ∧ r = g.whole := runF_run h (Nat.zero_le _) (fun _ _ _ _ _ _ _ _ h => stepF_le h)
theorem stepF_end {L : List UInt8} {lo : List Grp} {g : Grp} {f : Bool} : stepF L L.length lo g f = none := by
  cases h : stepF L L.length lo g f with
  | none => rfl
  | some x => obtain ⟨j, lo', g', f'⟩ := x; have := stepF_lt h; omega
end Go.Proofs.YtejdfpieblkapaaGreatDoor

/- Carried from another seat. -/
namespace Go.Proofs.YtejdfpieblkapaaGreatDoor
open Go.RowKit Go.Shelf

section
variable (P W : List UInt8)
theorem hexP_sfx (i k : Nat) : hexP (P ++ W) (P.length + i) k = hexP W i k := by
  induction k with
  | zero => rfl
  | succ k ih => simp only [hexP]; rw [ih, Nat.add_assoc, nx_sfx]
theorem escF_sfx (sp : ByteArray) (i : Nat) : escF sp (P ++ W) (P.length + i) = (escF sp W i).map fun x => (x.1, P.length + x.2) := by
  unfold escF hexF
  rw [nx_sfx]
  by_cases h1 : nx W i = 120
  · rw [if_pos h1, if_pos h1, show P.length + i + 1 = P.length + (i + 1) by omega, hexP_sfx]
    cases hexP W (i + 1) 2 <;> rfl
  · rw [if_neg h1, if_neg h1]
    by_cases h2 : nx W i = 110
    · rw [if_pos h2, if_pos h2]; rfl
    · rw [if_neg h2, if_neg h2]
      by_cases h3 : nx W i = 116
      · rw [if_pos h3, if_pos h3]; rfl
      · rw [if_neg h3, if_neg h3]
        by_cases h4 : nx W i = 115
        · rw [if_pos h4, if_pos h4]; rfl
        · rw [if_neg h4, if_neg h4]
          by_cases h5 : inS sp (nx W i) = true
          · rw [if_pos h5, if_pos h5]; rfl
          · rw [if_neg h5, if_neg h5]; rfl
theorem letF_sfx (sp : ByteArray) (i : Nat) : letF sp (P ++ W) (P.length + i) = (letF sp W i).map fun x => (x.1, P.length + x.2) := by
  unfold letF
  rw [nx_sfx]
  by_cases h1 : nx W i = 92
  · rw [if_pos h1, if_pos h1, Nat.add_assoc, escF_sfx]
  · rw [if_neg h1, if_neg h1]
    by_cases h2 : nx W i ≤ 32 ∨ 126 < nx W i ∨ inS sp (nx W i) = true
    · rw [if_pos h2, if_pos h2]; rfl
    · rw [if_neg h2, if_neg h2]; rfl
theorem lettersF_sfx (i : Nat) : lettersF (P ++ W) (P.length + i) = (lettersF W i).map fun x => (x.1, P.length + x.2) := by
  unfold lettersF
  rw [letF_sfx]
  cases letF INS W i with
  | none => rfl
  | some x =>
    obtain ⟨f, j⟩ := x
    show (if nx (P ++ W) (P.length + j) = 45 then _ else _) = Option.map _ (if nx W j = 45 then _ else _)
    rw [nx_sfx]
    by_cases h : nx W j = 45
    · rw [if_pos h, if_pos h, Nat.add_assoc, letF_sfx]
      cases letF INS W (j + 1) with
      | none => rfl
      | some y =>
        obtain ⟨g, k⟩ := y
        show (if g < f then _ else _) = Option.map _ (if g < f then _ else _)
        by_cases hg : g < f
        · rw [if_pos hg, if_pos hg]; rfl
        · rw [if_neg hg, if_neg hg]; rfl
    · rw [if_neg h, if_neg h]; rfl
theorem classP_sfx (k : Nat) : ∀ (t : Ws) (i : Nat), classP (P ++ W) k t (P.length + i) = (classP W k t i).map fun x => (x.1, P.length + x.2) := by
  induction k with
  | zero => intro t i; rfl
  | succ k ih =>
    intro t i
    simp only [classP]
    rw [nx_sfx]
    by_cases h : t ≠ ws0 ∧ nx W i = 93
    · rw [if_pos h, if_pos h]; rfl
    · rw [if_neg h, if_neg h, lettersF_sfx]
      cases lettersF W i with
      | none => rfl
      | some x => exact ih _ _
theorem letF_gt {sp : ByteArray} {L : List UInt8} {i b j : Nat} (h : letF sp L i = some (b, j)) : i < j := by
  unfold letF at h
  split at h
  · unfold escF at h
    (repeat' split at h) <;> first | (injection h with h; injection h with e1 e2; omega) | (cases h) | skip
    unfold hexF at h
    obtain ⟨n, hn, hh⟩ := Option.map_eq_some_iff.1 h
    injection hh with e1 e2
    omega
  · split at h
    · cases h
    · injection h with h; injection h with e1 e2; omega
theorem lettersF_gt {L : List UInt8} {i j : Nat} {t : Ws} (h : lettersF L i = some (t, j)) : i < j := by
  unfold lettersF at h
  split at h
  · cases h
  · rename_i f k hf
    have := letF_gt hf
    split at h
    · split at h
      · cases h
      · rename_i g m hg
        have := letF_gt hg
        split at h
        · cases h
        · injection h with h; injection h with e1 e2; omega
    · injection h with h; injection h with e1 e2; omega
theorem classP_gt {L : List UInt8} {k i j : Nat} {t u : Ws} (h : classP L k t i = some (u, j)) : i < j := by
  induction k generalizing i t with
  | zero => simp [classP] at h
  | succ k ih =>
    simp only [classP] at h
    split at h
    · injection h with h; injection h with e1 e2; omega
    · obtain ⟨⟨x, m⟩, hx, hh⟩ := Option.bind_eq_some_iff.1 h
      have := ih hh
      have := lettersF_gt hx
      omega
theorem classP_fuel {L : List UInt8} {k k' i j : Nat} {t u : Ws} (h : classP L k t i = some (u, j)) (hj : j ≤ i + k') : classP L k' t i = some (u, j) := by
  induction k generalizing i t k' with
  | zero => simp [classP] at h
  | succ k ih =>
    have hgt := classP_gt h
    obtain ⟨k', rfl⟩ : ∃ m, k' = m + 1 := ⟨k' - 1, by omega⟩
    simp only [classP] at h ⊢
    split at h
    · rename_i hc; rw [if_pos hc]; exact h
    · rename_i hc
      rw [if_neg hc]
      obtain ⟨⟨x, m⟩, hx, hh⟩ := Option.bind_eq_some_iff.1 h
      rw [hx]
      exact ih hh (by have := lettersF_gt hx; show j ≤ m + k'; omega)
theorem classF_sfx {i j' : Nat} {u : Ws} (h : classF (P ++ W) (P.length + i) = some (u, j')) : ∃ j, j' = P.length + j ∧ classF W i = some (u, j) := by
  have key : ∀ (i : Nat) (t v : Ws) (q k : Nat), classP W k t i = some (v, q) → classP W (W.length + 1) t i = some (v, q) := fun i t v q k h => by
    refine classP_fuel h ?_
    have h2 := (classP_mid [] W [] h (Nat.le_refl k)).2.2
    omega
  unfold classF at h ⊢
  rw [nx_sfx] at h
  split at h
  · rename_i h94
    rw [if_pos h94]
    rw [Nat.add_assoc, classP_sfx] at h
    obtain ⟨⟨x, m⟩, hx, hh⟩ := Option.map_eq_some_iff.1 h
    obtain ⟨⟨y, q⟩, hy, hz⟩ := Option.map_eq_some_iff.1 hx
    injection hh with e1 e2
    injection hz with e3 e4
    refine ⟨q, by omega, ?_⟩
    rw [key _ _ _ _ _ hy, ← e1, ← e3]; rfl
  · rename_i h94
    rw [if_neg h94]
    rw [classP_sfx] at h
    obtain ⟨⟨y, q⟩, hy, hz⟩ := Option.map_eq_some_iff.1 h
    injection hz with e3 e4
    exact ⟨q, by omega, by rw [key _ _ _ _ _ hy, ← e3]⟩
theorem atomF_sfx {i j' : Nat} {u : Ws} (h : atomF (P ++ W) (P.length + i) = some (u, j')) : ∃ j, j' = P.length + j ∧ atomF W i = some (u, j) := by
  unfold atomF at h ⊢
  rw [nx_sfx] at h
  split at h
  · rename_i h1
    rw [if_pos h1]
    injection h with h; injection h with e1 e2
    exact ⟨i + 1, by omega, by rw [e1]⟩
  · rename_i h1
    rw [if_neg h1]
    split at h
    · rename_i h2
      rw [if_pos h2]
      rw [Nat.add_assoc] at h
      exact classF_sfx P W h
    · rename_i h2
      rw [if_neg h2]
      rw [letF_sfx] at h
      obtain ⟨⟨x, m⟩, hx, hh⟩ := Option.map_eq_some_iff.1 h
      obtain ⟨⟨y, q⟩, hy, hz⟩ := Option.map_eq_some_iff.1 hx
      injection hh with e1 e2
      injection hz with e3 e4
      exact ⟨q, by omega, by rw [hy, ← e1, ← e3]; rfl⟩

/-- Alternatives ahead of all that was read. -/
def addL (ws : List Rx) : List Grp → Grp → List Grp × Grp
  | [], g => ([], ⟨ws ++ g.ways, g.row⟩)
  | h :: t, g => (⟨ws ++ h.ways, h.row⟩ :: t, g)
theorem stepF_sfx (ws : List Rx) {i j' : Nat} {lo lo' : List Grp} {g g' : Grp} {f f' : Bool} (h : stepF (P ++ W) (P.length + i) (addL ws lo g).1 (addL ws lo g).2 f = some (j', lo', g', f')) :
    ∃ j lo1 g1, j' = P.length + j ∧ addL ws lo1 g1 = (lo', g') ∧ stepF W i lo g f = some (j, lo1, g1, f') := by
  unfold stepF at h ⊢
  rw [nx_sfx] at h
  split at h
  · rename_i h1
    rw [if_pos h1]
    injection h with h; injection h with e1 h; injection h with e2 h; injection h with e3 e4
    refine ⟨_, _, _, ?_, ?_, by rw [← e4]⟩
    · omega
    · rw [← e2, ← e3]
      cases lo with
      | nil => show (([] : List Grp), (⟨ws ++ (g.ways ++ [catR g.row]), []⟩ : Grp)) = ([], ⟨(ws ++ g.ways) ++ [catR g.row], []⟩); rw [List.append_assoc]
      | cons a t => rfl
  · rename_i h1
    rw [if_neg h1]
    split at h
    · rename_i h2
      rw [if_pos h2]
      injection h with h; injection h with e1 h; injection h with e2 h; injection h with e3 e4
      refine ⟨_, _, _, ?_, ?_, by rw [← e4]⟩
      · omega
      · rw [← e2, ← e3]
        cases lo with
        | nil => rfl
        | cons a t => rfl
    · rename_i h2
      rw [if_neg h2]
      split at h
      · rename_i h3
        cases lo with
        | nil => exact absurd rfl h3.2
        | cons a t =>
          rw [if_pos ⟨h3.1, by simp⟩]
          injection h with h; injection h with e1 h; injection h with e2 h; injection h with e3 e4
          refine ⟨_, _, _, ?_, ?_, by rw [← e4]⟩
          · omega
          · rw [← e2, ← e3]
            cases t with
            | nil => rfl
            | cons b t => rfl
      · rename_i h3
        have h3' : ¬ (nx W i = 41 ∧ lo ≠ []) := fun hh => h3 ⟨hh.1, by
          cases lo with
          | nil => exact absurd rfl hh.2
          | cons a t => simp [addL]⟩
        rw [if_neg h3']
        split at h
        · rename_i h4
          rw [if_pos h4]
          injection h with h; injection h with e1 h; injection h with e2 h; injection h with e3 e4
          refine ⟨_, _, _, ?_, ?_, by rw [← e4]⟩
          · omega
          · rw [← e2, ← e3]
            cases lo with
            | nil => rfl
            | cons a t => rfl
        · rename_i h4
          rw [if_neg h4]
          obtain ⟨⟨x, m⟩, hx, hh⟩ := Option.map_eq_some_iff.1 h
          injection hh with e1 hh; injection hh with e2 hh; injection hh with e3 e4
          obtain ⟨j, hj, ha⟩ := atomF_sfx P W hx
          refine ⟨j, lo, g.put (.set x), ?_, ?_, by rw [ha, ← e4]; rfl⟩
          · rw [← e1]; exact hj
          · rw [← e2, ← e3]
            cases lo with
            | nil => rfl
            | cons a t => rfl
theorem Run.sfx (ws : List Rx) {i' j' : Nat} {lo' lo'' : List Grp} {g' g'' : Grp} {f f' : Bool} (h : Run (P ++ W) i' lo' g' f j' lo'' g'' f') : ∀ (i : Nat) (lo : List Grp) (g : Grp), i' = P.length + i → addL ws lo g = (lo', g') →
    ∃ j lo1 g1, j' = P.length + j ∧ addL ws lo1 g1 = (lo'', g'') ∧ Run W i lo g f j lo1 g1 f' := by
  induction h with
  | nil i1 lo1 g1 f => exact fun i lo g h1 h2 => ⟨i, lo, g, h1, h2, .nil _ _ _ _⟩
  | cons h1 _ ih =>
    intro i lo g hi ha
    rw [hi] at h1
    have e1 := congrArg Prod.fst ha
    have e2 := congrArg Prod.snd ha
    dsimp only at e1 e2
    rw [← e1, ← e2] at h1
    obtain ⟨j, lo1, g1, h2, h3, h4⟩ := stepF_sfx P W ws h1
    obtain ⟨k, lo2, g2, h5, h6, h7⟩ := ih j lo1 g1 h2 h3
    exact ⟨k, lo2, g2, h5, h6, .cons h4 h7⟩
end

theorem orR_L (l : List Rx) (u : List UInt8) : (orR l).L u ↔ ∃ r ∈ l, r.L u := by
  induction l with
  | nil =>
    refine ⟨fun h => ?_, fun ⟨r, h, _⟩ => by cases h⟩
    obtain ⟨c, _, hc⟩ := h
    have : Ws.hasN ⟨0, 0, 0, 0⟩ c.toNat = true := hc
    unfold Ws.hasN Ws.word at this
    split at this <;> simp at this
  | cons a l ih =>
    cases l with
    | nil => show a.L u ↔ _; simp
    | cons b l =>
      show (a.L u ∨ (orR (b :: l)).L u) ↔ _
      rw [ih]; simp
theorem catR_one (r : Rx) : catR [r] = r := rfl
theorem orR_one (r : Rx) : orR [r] = r := rfl

theorem Run.stop {L : List UInt8} {i k : Nat} {lo lo' : List Grp} {g g' : Grp} {f f' : Bool} (h : Run L i lo g f k lo' g' f') (hi : L.length ≤ i) : g' = g := by
  cases h with
  | nil => rfl
  | cons h _ => have := stepF_lt h; omega
theorem nx_here (P M : List UInt8) (c : UInt8) : nx (P ++ c :: M) P.length = c.toNat := by
  unfold nx; simp
theorem step_bar {L : List UInt8} {i : Nat} (h : nx L i = 124) (lo : List Grp) (g : Grp) (f : Bool) : stepF L i lo g f = some (i + 1, lo, g.nextWay, false) := by unfold stepF; rw [if_pos h]
theorem step_open {L : List UInt8} {i : Nat} (h : nx L i = 40) (lo : List Grp) (g : Grp) (f : Bool) : stepF L i lo g f = some (i + 1, lo ++ [g], g0, false) := by
  unfold stepF; rw [if_neg (by omega), if_pos h]
theorem step_close {L : List UInt8} {i : Nat} (h : nx L i = 41) (lo : List Grp) (b g : Grp) (f : Bool) : stepF L i (lo ++ [b]) g f = some (i + 1, lo, b.put g.whole, true) := by
  unfold stepF; rw [if_neg (by omega), if_neg (by omega), if_pos ⟨h, by simp⟩]; simp
/-- What stands in brackets is a factor. -/
theorem run_group (P A M : List UInt8) {g : Grp} {f : Bool} (h : Run A 0 [] g0 false A.length [] g f) (lo : List Grp) (b : Grp) (fb : Bool) :
    Run (P ++ (40 :: A ++ 41 :: M)) P.length lo b fb (P.length + A.length + 2) lo (b.put g.whole) true := by
  have h1 : nx (P ++ (40 :: A ++ 41 :: M)) P.length = 40 := nx_here P (A ++ 41 :: M) 40
  have h2 : P ++ (40 :: A ++ 41 :: M) = (P ++ [40]) ++ A ++ (41 :: M) := by simp
  have h3 : nx (P ++ (40 :: A ++ 41 :: M)) (P.length + 1 + A.length) = 41 := by
    have := nx_here ((P ++ [40]) ++ A) M 41
    rw [h2, show P.length + 1 + A.length = P.length + (A.length + 1) by omega]
    simpa using this
  refine .cons (step_open h1 _ _ _) ?_
  have h4 := h.mid (P ++ [40]) A (41 :: M) (lo ++ [b])
  rw [← h2] at h4
  have e1 : (P ++ [40]).length = P.length + 1 := by simp
  rw [e1, List.append_nil] at h4
  refine h4.trans (.cons (step_close h3 _ _ _ _) ?_)
  rw [show P.length + 1 + A.length + 1 = P.length + A.length + 2 by omega]
  exact .nil _ _ _ _

/-- Alternatives in any order; brackets once more. -/
theorem turns_math (A B : List UInt8) (x y z n : Rx) (hx : parseF (40 :: A ++ 41 :: 124 :: 40 :: B ++ [41]) = some x) (hy : parseF (40 :: B ++ 41 :: 124 :: 40 :: A ++ [41]) = some y) (hz : parseF (40 :: 40 :: A ++ 41 :: 41 :: 124 :: 40 :: 40 :: A ++ [41, 41]) = some z) (hn : parseF A = some n) (u : List UInt8) :
    (x.L u ↔ y.L u) ∧ (z.L u ↔ n.L u) := by
  obtain ⟨gn, fn, rn, rfl⟩ := parseF_run hn
  obtain ⟨gx, fx, rx, rfl⟩ := parseF_run hx
  obtain ⟨gy, fy, ry, rfl⟩ := parseF_run hy
  obtain ⟨gz, fz, rz, rfl⟩ := parseF_run hz
  obtain ⟨W, hW⟩ : ∃ W, W = 40 :: B ++ [41] := ⟨_, rfl⟩
  obtain ⟨P, hP⟩ : ∃ P, P = 40 :: A ++ [41, 124] := ⟨_, rfl⟩
  have eX : (40 :: A ++ 41 :: 124 :: 40 :: B ++ [41] : List UInt8) = P ++ W := by rw [hP, hW]; simp
  have eY : (40 :: B ++ 41 :: 124 :: 40 :: A ++ [41] : List UInt8) = W ++ (124 :: 40 :: A ++ [41]) := by rw [hW]; simp
  -- x
  have hPl : P.length = A.length + 3 := by rw [hP]; simp
  have x1 := run_group [] A (124 :: W) rn [] g0 false
  have eX1 : (([] : List UInt8) ++ (40 :: A ++ 41 :: (124 :: W))) = P ++ W := by rw [hP]; simp
  rw [eX1] at x1
  have x2 : nx (P ++ W) (A.length + 2) = 124 := by
    have := nx_here (40 :: A ++ [41]) W 124
    rw [hP]
    simpa using this
  have x3 : Run (P ++ W) 0 [] g0 false P.length [] ⟨[gn.whole], []⟩ false := by
    have e0 : ([] : List UInt8).length + A.length + 2 = A.length + 2 := by simp
    rw [e0] at x1
    refine x1.trans (.cons (step_bar x2 _ _ _) ?_)
    rw [hPl]
    exact .nil _ _ _ _
  rw [eX] at rx
  have x4 := x3.by' rx stepF_end
  obtain ⟨j, lo1, g1, h1, h2, h3⟩ := x4.sfx P W [gn.whole] 0 [] g0 rfl rfl
  have hlo : lo1 = [] := by
    cases lo1 with
    | nil => rfl
    | cons a t => have := congrArg Prod.fst h2; simp [addL] at this
  subst hlo
  have hgx : gx = ⟨[gn.whole] ++ g1.ways, g1.row⟩ := (congrArg Prod.snd h2).symm
  have hj : j = W.length := by rw [List.length_append] at h1; omega
  subst hj
  -- y
  have y1 := h3.mid [] W (124 :: 40 :: A ++ [41]) []
  have eY1 : (([] : List UInt8) ++ W ++ (124 :: 40 :: A ++ [41])) = W ++ (124 :: 40 :: A ++ [41]) := by simp
  rw [eY1] at y1
  have y2 : nx (W ++ (124 :: 40 :: A ++ [41])) W.length = 124 := by
    have := nx_here W (40 :: A ++ [41]) 124
    simpa using this
  have y3 := run_group (W ++ [124]) A [] rn [] g1.nextWay false
  have eY2 : (W ++ [124] ++ (40 :: A ++ 41 :: [])) = W ++ (124 :: 40 :: A ++ [41]) := by simp
  rw [eY2] at y3
  have y4 : Run (W ++ (124 :: 40 :: A ++ [41])) 0 [] g0 false (W.length + 1 + A.length + 2) [] (g1.nextWay.put gn.whole) true := by
    have e0 : ([] : List UInt8).length = 0 := rfl
    rw [e0, Nat.zero_add, Nat.zero_add] at y1
    refine y1.trans (.cons (step_bar y2 _ _ _) ?_)
    have e1 : (W ++ [124]).length = W.length + 1 := by simp
    rw [e1] at y3
    exact y3
  rw [eY] at ry
  have y5 := y4.by' ry stepF_end
  have hgy : gy = g1.nextWay.put gn.whole := y5.stop (by simp; omega)
  -- z
  have z0 : Run (40 :: A ++ [41]) 0 [] g0 false (40 :: A ++ [41]).length [] (g0.put gn.whole) true := by
    have := run_group [] A [] rn [] g0 false
    have e0 : ([] : List UInt8).length + A.length + 2 = (40 :: A ++ [41]).length := by simp
    rw [e0] at this
    exact this
  have z1 := run_group [] (40 :: A ++ [41]) (124 :: 40 :: 40 :: A ++ [41, 41]) z0 [] g0 false
  have eZ1 : (([] : List UInt8) ++ (40 :: (40 :: A ++ [41]) ++ 41 :: (124 :: 40 :: 40 :: A ++ [41, 41]))) = 40 :: 40 :: A ++ 41 :: 41 :: 124 :: 40 :: 40 :: A ++ [41, 41] := by simp
  rw [eZ1] at z1
  have z2 := run_group (40 :: 40 :: A ++ [41, 41, 124]) (40 :: A ++ [41]) [] z0 [] (g0.put (g0.put gn.whole).whole).nextWay false
  have eZ2 : (40 :: 40 :: A ++ [41, 41, 124] ++ (40 :: (40 :: A ++ [41]) ++ 41 :: [])) = 40 :: 40 :: A ++ 41 :: 41 :: 124 :: 40 :: 40 :: A ++ [41, 41] := by simp
  rw [eZ2] at z2
  have z3 : nx (40 :: 40 :: A ++ 41 :: 41 :: 124 :: 40 :: 40 :: A ++ [41, 41]) (A.length + 4) = 124 := by
    have := nx_here (40 :: 40 :: A ++ [41, 41]) (40 :: 40 :: A ++ [41, 41]) 124
    simpa using this
  have ez : ([] : List UInt8).length + (40 :: A ++ [41] : List UInt8).length + 2 = A.length + 4 := by simp
  rw [ez] at z1
  rw [show (40 :: 40 :: A ++ [41, 41, 124] : List UInt8).length = A.length + 4 + 1 by simp] at z2
  have z4 := (z1.trans (.cons (step_bar z3 _ _ _) z2)).by' rz stepF_end
  have hgz : gz = (g0.put (g0.put gn.whole).whole).nextWay.put (g0.put gn.whole).whole := by
    exact z4.stop (by simp; omega)
  subst hgx; subst hgy; subst hgz
  constructor
  · show (orR ([gn.whole] ++ g1.ways ++ [catR g1.row])).L u ↔ (orR (g1.ways ++ [catR g1.row] ++ [catR ([] ++ [gn.whole])])).L u
    rw [orR_L, orR_L]
    simp only [List.nil_append, catR_one]
    constructor
    · rintro ⟨r, hr, hu⟩
      refine ⟨r, ?_, hu⟩
      simp at hr ⊢
      rcases hr with h | h | h <;> simp [h]
    · rintro ⟨r, hr, hu⟩
      refine ⟨r, ?_, hu⟩
      simp at hr ⊢
      rcases hr with h | h | h <;> simp [h]
  · have e1 : (g0.put gn.whole).whole = gn.whole := rfl
    rw [e1, show ((g0.put gn.whole).nextWay.put gn.whole).whole = orR [gn.whole, gn.whole] from rfl, orR_L]
    simp
end Go.Proofs.YtejdfpieblkapaaGreatDoor

/- Carried from another seat. -/
namespace Go.Proofs.YtejdfpieblkapaaGreatDoor
open Go.RowKit Go.Shelf

/-- Steps, one behind the other, at most fifty groups deep. -/
inductive RunD (L : List UInt8) : Nat → List Grp → Grp → Bool → Nat → List Grp → Grp → Bool → Prop
  | nil (i : Nat) (lo : List Grp) (g : Grp) (f : Bool) : RunD L i lo g f i lo g f
  | cons {i j k : Nat} {lo lo' lo'' : List Grp} {g g' g'' : Grp} {f f' f'' : Bool} : stepF L i lo g f = some (j, lo', g', f') → lo'.length ≤ 50 → RunD L j lo' g' f' k lo'' g'' f'' → RunD L i lo g f k lo'' g'' f''
theorem RunD.run {L : List UInt8} {i j : Nat} {lo lo' : List Grp} {g g' : Grp} {f f' : Bool} (h : RunD L i lo g f j lo' g' f') : Run L i lo g f j lo' g' f' := by
  induction h with
  | nil i lo g f => exact .nil _ _ _ _
  | cons h1 _ _ ih => exact .cons h1 ih
theorem RunD.trans {L : List UInt8} {i j k : Nat} {lo lo' lo'' : List Grp} {g g' g'' : Grp} {f f' f'' : Bool} (h : RunD L i lo g f j lo' g' f') (h2 : RunD L j lo' g' f' k lo'' g'' f'') : RunD L i lo g f k lo'' g'' f'' := by
  induction h with
  | nil i lo g f => exact h2
  | cons h1 hd _ ih => exact .cons h1 hd (ih h2)

mutual
/-- A factor in so many brackets, from a place on, up to another. -/
inductive FacP (L : List UInt8) : Nat → Nat → Rx → Nat → Prop
  | atom {d i j k : Nat} {s : Ws} {r : Rx} : atomF L i = some (s, j) → SufP L (.set s) j r k → FacP L d i r k
  | group {d i j k : Nat} {r0 r : Rx} : nx L i = 40 → d < 50 → OrP L (d + 1) [] (i + 1) r0 j → nx L j = 41 → SufP L r0 (j + 1) r k → FacP L d i r k
/-- What stands behind a factor. -/
inductive SufP (L : List UInt8) : Rx → Nat → Rx → Nat → Prop
  | stop {i : Nat} {r : Rx} : inS REP (nx L i) = false → SufP L r i r i
  | more {i j : Nat} {r r' : Rx} : inS REP (nx L i) = true → SufP L (repF r (nx L i)) (i + 1) r' j → SufP L r i r' j
/-- The factors of an alternative. -/
inductive AltP (L : List UInt8) : Nat → List Rx → Nat → List Rx → Nat → Prop
  | stop {d i : Nat} {row : List Rx} : (i = L.length ∨ nx L i = 124 ∨ nx L i = 41) → AltP L d row i row i
  | more {d i j k : Nat} {r : Rx} {row row' : List Rx} : FacP L d i r j → AltP L d (row ++ [r]) j row' k → AltP L d row i row' k
/-- Alternatives. -/
inductive OrP (L : List UInt8) : Nat → List Rx → Nat → Rx → Nat → Prop
  | last {d i j : Nat} {ways row : List Rx} : AltP L d [] i row j → nx L j ≠ 124 → OrP L d ways i (orR (ways ++ [catR row])) j
  | more {d i j k : Nat} {ways row : List Rx} {r : Rx} : AltP L d [] i row j → nx L j = 124 → OrP L d (ways ++ [catR row]) (j + 1) r k → OrP L d ways i r k
end

theorem indexByte_mem' (l : List UInt8) (c : UInt8) : 0 ≤ Lib.indexByte l c ↔ c ∈ l := by
  induction l with
  | nil => simp [Lib.indexByte]
  | cons b l ih =>
    have hr := (indexByte_range l c).1
    simp only [Lib.indexByte]
    by_cases h : b = c
    · subst h; simp
    · have h1 : (b == c) = false := by simpa using h
      rw [h1]
      by_cases h2 : Lib.indexByte l c = -1
      · rw [h2] at ih ⊢
        have : c ∉ l := fun hm => by have := ih.2 hm; omega
        simp [this, Ne.symm h]
      · have h3 : (Lib.indexByte l c == -1) = false := by simpa using h2
        rw [h3]
        have : c ∈ l := ih.1 (by omega)
        simp [this]; omega
theorem inS_mem' (sp : ByteArray) (c : Nat) : inS sp c = decide (c.toUInt8 ∈ sp.data.toList) := by
  unfold inS
  rw [Bool.eq_iff_iff, decide_eq_true_iff, decide_eq_true_iff, indexByte_mem']
theorem atomF_not {L : List UInt8} {i j : Nat} {s : Ws} (h : atomF L i = some (s, j)) : nx L i ≠ 124 ∧ nx L i ≠ 40 ∧ nx L i ≠ 41 ∧ inS REP (nx L i) = false := by
  have key : ∀ c, inS OUT c = true → c ≠ 92 → c ≠ 46 → c ≠ 91 → nx L i ≠ c := fun c hc h92 h46 h91 e => by
    unfold atomF letF at h
    rw [e, if_neg h46, if_neg h91, if_neg h92, if_pos (.inr (.inr hc))] at h
    cases h
  refine ⟨key 124 (by decide) (by decide) (by decide) (by decide), key 40 (by decide) (by decide) (by decide) (by decide), key 41 (by decide) (by decide) (by decide) (by decide), ?_⟩
  rw [inS_mem', decide_eq_false_iff_not]
  intro hm
  have h3 : (nx L i).toUInt8 = 42 ∨ (nx L i).toUInt8 = 43 ∨ (nx L i).toUInt8 = 63 := by simpa [REP] using hm
  have hl := nx_lt L i
  have hc : ∀ c : UInt8, (nx L i).toUInt8 = c → nx L i = c.toNat := fun c e => by
    rw [← e, UInt8.toNat_ofNat']; exact (Nat.mod_eq_of_lt hl).symm
  rcases h3 with h3 | h3 | h3
  · exact key 42 (by decide) (by decide) (by decide) (by decide) (hc _ h3)
  · exact key 43 (by decide) (by decide) (by decide) (by decide) (hc _ h3)
  · exact key 63 (by decide) (by decide) (by decide) (by decide) (hc _ h3)
theorem rep_not {L : List UInt8} {i : Nat} (h : inS REP (nx L i) = true) : nx L i ≠ 124 ∧ nx L i ≠ 40 ∧ nx L i ≠ 41 := by
  refine ⟨fun e => ?_, fun e => ?_, fun e => ?_⟩ <;> (rw [e] at h; revert h; decide)
theorem step_atom {L : List UInt8} {i j : Nat} {s : Ws} (h : atomF L i = some (s, j)) (lo : List Grp) (g : Grp) (f : Bool) : stepF L i lo g f = some (j, lo, g.put (.set s), true) := by
  obtain ⟨h1, h2, h3, h4⟩ := atomF_not h
  unfold stepF
  rw [if_neg h1, if_neg h2, if_neg (fun hh => h3 hh.1), if_neg (fun hh => by rw [h4] at hh; cases hh.2), h]; rfl
theorem step_rep {L : List UInt8} {i : Nat} (h : inS REP (nx L i) = true) (lo : List Grp) (g : Grp) (r : Rx) : stepF L i lo (g.put r) true = some (i + 1, lo, g.put (repF r (nx L i)), true) := by
  obtain ⟨h1, h2, h3⟩ := rep_not h
  unfold stepF
  rw [if_neg h1, if_neg h2, if_neg (fun hh => h3 hh.1), if_pos ⟨rfl, h⟩]
  unfold Grp.rep Grp.put
  simp

mutual
theorem FacP.run {L : List UInt8} {d i k : Nat} {r : Rx} : FacP L d i r k → ∀ (lo : List Grp) (g : Grp) (f : Bool), lo.length = d → d ≤ 50 → RunD L i lo g f k lo (g.put r) true
  | .atom h hs, lo, g, f, hd, h50 => .cons (step_atom h lo g f) (by omega) (hs.run lo g (by omega))
  | .group h hlt ho hc hs, lo, g, f, hd, h50 => by
    obtain ⟨g1, f1, h1, h2⟩ := ho.run (lo ++ [g]) false (by simp; exact hd) (by omega)
    refine .cons (step_open h lo g f) (by simp; omega) (h1.trans (.cons (step_close hc lo g g1 f1) (by omega) ?_))
    rw [h2]
    exact hs.run lo g (by omega)
theorem SufP.run {L : List UInt8} {i j : Nat} {r r' : Rx} : SufP L r i r' j → ∀ (lo : List Grp) (g : Grp), lo.length ≤ 50 → RunD L i lo (g.put r) true j lo (g.put r') true
  | .stop _, _lo, g, _ => .nil _ _ _ _
  | .more h hs, lo, g, hd => .cons (step_rep h lo g _) hd (hs.run lo g hd)
theorem AltP.run {L : List UInt8} {d i j : Nat} {row row' : List Rx} : AltP L d row i row' j → ∀ (lo : List Grp) (ways : List Rx) (f : Bool), lo.length = d → d ≤ 50 → ∃ f', RunD L i lo ⟨ways, row⟩ f j lo ⟨ways, row'⟩ f'
  | .stop _, lo, ways, f, _, _ => ⟨f, .nil _ _ _ _⟩
  | .more hf ha, lo, ways, f, hd, h50 => by
    obtain ⟨f', h⟩ := ha.run lo ways true hd h50
    exact ⟨f', (hf.run lo ⟨ways, _⟩ f hd h50).trans h⟩
theorem OrP.run {L : List UInt8} {d i k : Nat} {ways : List Rx} {r : Rx} : OrP L d ways i r k → ∀ (lo : List Grp) (f : Bool), lo.length = d → d ≤ 50 → ∃ g f', RunD L i lo ⟨ways, []⟩ f k lo g f' ∧ g.whole = r
  | .last ha hn, lo, f, hd, h50 => by
    obtain ⟨f', h⟩ := ha.run lo ways f hd h50
    exact ⟨_, f', h, rfl⟩
  | .more ha hb ho, lo, f, hd, h50 => by
    obtain ⟨f1, h1⟩ := ha.run lo ways f hd h50
    obtain ⟨g, f2, h2, h3⟩ := ho.run lo false hd h50
    exact ⟨g, f2, h1.trans (.cons (step_bar hb lo _ f1) (by omega) h2), h3⟩
end

/-- Nothing that was read is lost. -/
theorem nest_ge (mk : Rx → Rx → Rx) (hmk : ∀ a b, (mk a b).size = 1 + a.size + b.size) (r0 : Rx) (l : List Rx) : szs l ≤ (nest mk r0 l).size := by
  induction l with
  | nil => simp [szs]
  | cons a l ih =>
    cases l with
    | nil => show szs [a] ≤ a.size; rw [szs_cons, szs_nil]; omega
    | cons b l =>
      show szs (a :: b :: l) ≤ (mk a (nest mk r0 (b :: l))).size
      rw [hmk, szs_cons]; omega
theorem catR_ge (l : List Rx) : szs l ≤ (catR l).size := nest_ge _ (fun _ _ => rfl) _ l
theorem orR_ge (l : List Rx) : szs l ≤ (orR l).size := nest_ge _ (fun _ _ => rfl) _ l
theorem whole_ge (g : Grp) : g.size ≤ g.whole.size := by
  have h1 := orR_ge (g.ways ++ [catR g.row])
  have h2 := catR_ge g.row
  rw [szs_append, szs_cons, szs_nil] at h1
  show szs g.ways + szs g.row ≤ (orR (g.ways ++ [catR g.row])).size
  omega
theorem repF_ge (r : Rx) (c : Nat) : r.size ≤ (repF r c).size := by
  unfold repF
  split
  · show r.size ≤ 1 + r.size; omega
  · split
    · show r.size ≤ 1 + r.size + (1 + r.size); omega
    · show r.size ≤ 1 + r.size + 1; omega
theorem put_size (g : Grp) (r : Rx) : (g.put r).size = g.size + r.size := by
  show szs g.ways + szs (g.row ++ [r]) = szs g.ways + szs g.row + r.size
  rw [szs_append, szs_cons, szs_nil]; omega
theorem stepF_ge {L : List UInt8} {i j : Nat} {lo lo' : List Grp} {g g' : Grp} {f f' : Bool} (h : stepF L i lo g f = some (j, lo', g', f')) : gsz (lo ++ [g]) ≤ gsz (lo' ++ [g']) := by
  unfold stepF at h
  split at h
  · injection h with h; injection h with e1 h; injection h with e2 h; injection h with e3 e4
    subst e2; subst e3
    rw [gsz_append, gsz_append, gsz_one, gsz_one]
    have e : g.nextWay.size = szs (g.ways ++ [catR g.row]) + szs [] := rfl
    have e2 : g.size = szs g.ways + szs g.row := rfl
    have := catR_ge g.row
    rw [e, szs_append, szs_cons, szs_nil]; omega
  · split at h
    · injection h with h; injection h with e1 h; injection h with e2 h; injection h with e3 e4
      subst e2; subst e3
      rw [gsz_append (lo ++ [g])]; omega
    · split at h
      · rename_i h3
        injection h with h; injection h with e1 h; injection h with e2 h; injection h with e3 e4
        subst e2; subst e3
        rcases List.eq_nil_or_concat lo with rfl | ⟨lo, b, rfl⟩
        · exact absurd rfl h3.2
        · rw [List.concat_eq_append]
          have := whole_ge g
          simp only [List.dropLast_concat, List.getLast?_append, List.getLast?_singleton, Option.some_or, Option.getD_some]
          rw [gsz_append, gsz_append, gsz_append, gsz_one, gsz_one, gsz_one, put_size]; omega
      · split at h
        · injection h with h; injection h with e1 h; injection h with e2 h; injection h with e3 e4
          subst e2; subst e3
          rw [gsz_append, gsz_append, gsz_one, gsz_one]
          have e2 : g.size = szs g.ways + szs g.row := rfl
          have e : (g.rep (nx L i)).size = szs g.ways + szs (g.row.dropLast ++ [repF (g.row.getLast?.getD .empty) (nx L i)]) := rfl
          have h5 := repF_ge (g.row.getLast?.getD .empty) (nx L i)
          rw [e, szs_append, szs_cons, szs_nil]
          rcases List.eq_nil_or_concat g.row with hr | ⟨rs, z, hr⟩
          · rw [hr] at e2; rw [hr]; simp only [szs_nil] at e2; omega
          · rw [List.concat_eq_append] at hr
            rw [hr, szs_append, szs_cons, szs_nil] at e2
            rw [hr] at h5 ⊢
            simp only [List.getLast?_append, List.getLast?_singleton, Option.some_or, Option.getD_some, List.dropLast_concat] at h5 ⊢
            omega
        · obtain ⟨⟨x, m⟩, hx, hh⟩ := Option.map_eq_some_iff.1 h
          injection hh with e1 hh; injection hh with e2 hh; injection hh with e3 e4
          subst e2; subst e3
          rw [gsz_append, gsz_append, gsz_one, gsz_one, put_size]; omega
theorem RunD.ge {L : List UInt8} {i j : Nat} {lo lo' : List Grp} {g g' : Grp} {f f' : Bool} (h : RunD L i lo g f j lo' g' f') : gsz (lo ++ [g]) ≤ gsz (lo' ++ [g']) := by
  induction h with
  | nil i lo g f => exact Nat.le_refl _
  | cons h1 _ _ ih => exact Nat.le_trans (stepF_ge h1) ih
/-- A run to the end, of a few nodes, is what the parser answers. -/
theorem RunD.runF {L : List UInt8} {i j : Nat} {lo lo' : List Grp} {g g' : Grp} {f f' : Bool} (h : RunD L i lo g f j lo' g' f') (hj : j = L.length) (hlo : lo' = []) (hsz : g'.whole.size ≤ 400) : ∀ k, L.length + 1 ≤ k + i → i ≤ L.length → runF L k i lo g f = some g'.whole := by
  induction h with
  | nil i lo g f =>
    intro k hk hi
    obtain ⟨k, rfl⟩ : ∃ m, k = m + 1 := ⟨k - 1, by omega⟩
    simp only [YtejdfpieblkapaaGreatDoor.runF]
    rw [if_neg (by omega)]
    unfold finF
    rw [if_pos hlo, if_pos hsz]
  | @cons i j k lo lo' lo'' g g' g'' f f' f'' h1 hd hr ih =>
    intro m hk hi
    have hlt := stepF_lt h1
    have hle := stepF_le h1
    have hgt := (stepF_ok (s := ⟨L.toArray⟩) (by simpa using h1) (by simpa [ByteArray.size] using hlt)).1
    obtain ⟨m, rfl⟩ : ∃ n, m = n + 1 := ⟨m - 1, by omega⟩
    simp only [YtejdfpieblkapaaGreatDoor.runF]
    rw [if_pos hlt, h1]
    have hge := hr.ge
    rw [hlo, List.nil_append, gsz_one] at hge
    have hw := whole_ge g''
    have hnh : ¬ heavy lo' g' = true := by
      intro hh
      have := of_decide_eq_true hh
      omega
    show (if heavy lo' g' = true then none else _) = _
    rw [if_neg hnh]
    exact ih hj hlo hsz m (by omega) hle
/-- What the document parses, whole, the parser answers. -/
theorem OrP.parse {L : List UInt8} {r : Rx} (h : OrP L 0 [] 0 r L.length) (hsz : r.size ≤ 400) : parseF L = some r := by
  obtain ⟨g, f, h1, rfl⟩ := h.run [] false rfl (by omega)
  exact h1.runF rfl rfl hsz _ (by omega) (Nat.zero_le _)

/-- From there nothing is answered, whatever was read. -/
def Dead (L : List UInt8) (i : Nat) (lo : List Grp) (g : Grp) (f : Bool) : Prop := ∀ k, runF L k i lo g f = none
theorem Dead.step {L : List UInt8} {i j : Nat} {lo lo' : List Grp} {g g' : Grp} {f f' : Bool} (h : stepF L i lo g f = some (j, lo', g', f')) (hd : Dead L j lo' g' f') : Dead L i lo g f := fun k => by
  cases k with
  | zero => rfl
  | succ k =>
    simp only [runF]
    rw [if_pos (stepF_lt h), h]
    show (if heavy lo' g' = true then none else _) = _
    split
    · rfl
    · exact hd k
theorem Dead.heavy {L : List UInt8} {i j : Nat} {lo lo' : List Grp} {g g' : Grp} {f f' : Bool} (h : stepF L i lo g f = some (j, lo', g', f')) (hd : heavy lo' g' = true) : Dead L i lo g f := fun k => by
  cases k with
  | zero => rfl
  | succ k =>
    simp only [runF]
    rw [if_pos (stepF_lt h), h]
    show (if _ = true then none else _) = _
    rw [if_pos hd]
theorem Dead.run {L : List UInt8} {i j : Nat} {lo lo' : List Grp} {g g' : Grp} {f f' : Bool} (h : Run L i lo g f j lo' g' f') (hd : Dead L j lo' g' f') : Dead L i lo g f := by
  induction h with
  | nil i lo g f => exact hd
  | cons h1 _ ih => exact (ih hd).step h1
theorem Dead.stuck {L : List UInt8} {i : Nat} {lo : List Grp} {g : Grp} {f : Bool} (hi : i < L.length) (h : stepF L i lo g f = none) : Dead L i lo g f := fun k => by
  cases k with
  | zero => rfl
  | succ k => simp only [runF]; rw [if_pos hi, h]
theorem Dead.open' {L : List UInt8} {lo : List Grp} {g : Grp} {f : Bool} (h : lo ≠ []) : Dead L L.length lo g f := fun k => by
  cases k with
  | zero => rfl
  | succ k => simp only [runF]; rw [if_neg (by omega)]; unfold finF; rw [if_neg h]
/-- A bracket that nothing opened. -/
theorem Dead.close {L : List UInt8} {i : Nat} {g : Grp} {f : Bool} (h : nx L i = 41) : Dead L i [] g f := by
  refine Dead.stuck (nx_lt' (by omega)) ?_
  unfold stepF
  rw [if_neg (by omega), if_neg (by omega), if_neg (fun hh => hh.2 rfl), if_neg (fun hh => by rw [h] at hh; exact absurd hh.2 (by decide)), atomF_close h]; rfl
/-- A factor that can't be read. -/
theorem Dead.atom {L : List UInt8} {i : Nat} {lo : List Grp} {g : Grp} (hi : i < L.length) (h : atomF L i = none) (h1 : nx L i ≠ 124) (h2 : nx L i ≠ 40) (h3 : nx L i ≠ 41) {f : Bool} (hf : f = true → inS REP (nx L i) = false) : Dead L i lo g f := by
  refine Dead.stuck hi ?_
  unfold stepF
  rw [if_neg h1, if_neg h2, if_neg (fun hh => h3 hh.1), if_neg (fun hh => by rw [hf hh.1] at hh; cases hh.2), h]; rfl
end Go.Proofs.YtejdfpieblkapaaGreatDoor
