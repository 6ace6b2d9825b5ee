/- Carried from another seat. -/
import Derived.Test.YtejdfpieblkapaaGreatDoorM40
namespace Go.Proofs.YtejdfpieblkapaaGreatDoor
open Go.RowKit Go.Shelf

section
variable (P W : List UInt8)
theorem hexP_sfx (i k : Nat) : hexP (P ++ W) (P.length + i) k = hexP W i k := by
  induction k with
  | zero => rfl
  | succ k ih => simp only [hexP]; rw [ih, Nat.add_assoc, nx_sfx]
theorem escF_sfx (sp : ByteArray) (i : Nat) : escF sp (P ++ W) (P.length + i) = (escF sp W i).map fun x => (x.1, P.length + x.2) := by
  unfold escF hexF
  rw [nx_sfx]
  by_cases h1 : nx W i = 120
  · rw [if_pos h1, if_pos h1, show P.length + i + 1 = P.length + (i + 1) by omega, hexP_sfx]
    cases hexP W (i + 1) 2 <;> rfl
  · rw [if_neg h1, if_neg h1]
    by_cases h2 : nx W i = 110
    · rw [if_pos h2, if_pos h2]; rfl
    · rw [if_neg h2, if_neg h2]
      by_cases h3 : nx W i = 116
      · rw [if_pos h3, if_pos h3]; rfl
      · rw [if_neg h3, if_neg h3]
        by_cases h4 : nx W i = 115
        · rw [if_pos h4, if_pos h4]; rfl
        · rw [if_neg h4, if_neg h4]
          by_cases h5 : inS sp (nx W i) = true
          · rw [if_pos h5, if_pos h5]; rfl
          · rw [if_neg h5, if_neg h5]; rfl
theorem letF_sfx (sp : ByteArray) (i : Nat) : letF sp (P ++ W) (P.length + i) = (letF sp W i).map fun x => (x.1, P.length + x.2) := by
  unfold letF
  rw [nx_sfx]
  by_cases h1 : nx W i = 92
  · rw [if_pos h1, if_pos h1, Nat.add_assoc, escF_sfx]
  · rw [if_neg h1, if_neg h1]
    by_cases h2 : nx W i ≤ 32 ∨ 126 < nx W i ∨ inS sp (nx W i) = true
    · rw [if_pos h2, if_pos h2]; rfl
    · rw [if_neg h2, if_neg h2]; rfl
theorem lettersF_sfx (i : Nat) : lettersF (P ++ W) (P.length + i) = (lettersF W i).map fun x => (x.1, P.length + x.2) := by
  unfold lettersF
  rw [letF_sfx]
  cases letF INS W i with
  | none => rfl
  | some x =>
    obtain ⟨f, j⟩ := x
    show (if nx (P ++ W) (P.length + j) = 45 then _ else _) = Option.map _ (if nx W j = 45 then _ else _)
    rw [nx_sfx]
    by_cases h : nx W j = 45
    · rw [if_pos h, if_pos h, Nat.add_assoc, letF_sfx]
      cases letF INS W (j + 1) with
      | none => rfl
      | some y =>
        obtain ⟨g, k⟩ := y
        show (if g < f then _ else _) = Option.map _ (if g < f then _ else _)
        by_cases hg : g < f
        · rw [if_pos hg, if_pos hg]; rfl
        · rw [if_neg hg, if_neg hg]; rfl
    · rw [if_neg h, if_neg h]; rfl
theorem classP_sfx (k : Nat) : ∀ (t : Ws) (i : Nat), classP (P ++ W) k t (P.length + i) = (classP W k t i).map fun x => (x.1, P.length + x.2) := by
  induction k with
  | zero => intro t i; rfl
  | succ k ih =>
    intro t i
    simp only [classP]
    rw [nx_sfx]
    by_cases h : t ≠ ws0 ∧ nx W i = 93
    · rw [if_pos h, if_pos h]; rfl
    · rw [if_neg h, if_neg h, lettersF_sfx]
      cases lettersF W i with
      | none => rfl
      | some x => exact ih _ _
theorem letF_gt {sp : ByteArray} {L : List UInt8} {i b j : Nat} (h : letF sp L i = some (b, j)) : i < j := by
  unfold letF at h
  split at h
  · unfold escF at h
    (repeat' split at h) <;> first | (injection h with h; injection h with e1 e2; omega) | (cases h) | skip
    unfold hexF at h
    obtain ⟨n, hn, hh⟩ := Option.map_eq_some_iff.1 h
    injection hh with e1 e2
    omega
  · split at h
    · cases h
    · injection h with h; injection h with e1 e2; omega
theorem lettersF_gt {L : List UInt8} {i j : Nat} {t : Ws} (h : lettersF L i = some (t, j)) : i < j := by
  unfold lettersF at h
  split at h
  · cases h
  · rename_i f k hf
    have := letF_gt hf
    split at h
    · split at h
      · cases h
      · rename_i g m hg
        have := letF_gt hg
        split at h
        · cases h
        · injection h with h; injection h with e1 e2; omega
    · injection h with h; injection h with e1 e2; omega
theorem classP_gt {L : List UInt8} {k i j : Nat} {t u : Ws} (h : classP L k t i = some (u, j)) : i < j := by
  induction k generalizing i t with
  | zero => simp [classP] at h
  | succ k ih =>
    simp only [classP] at h
    split at h
    · injection h with h; injection h with e1 e2; omega
    · obtain ⟨⟨x, m⟩, hx, hh⟩ := Option.bind_eq_some_iff.1 h
      have := ih hh
      have := lettersF_gt hx
      omega
theorem classP_fuel {L : List UInt8} {k k' i j : Nat} {t u : Ws} (h : classP L k t i = some (u, j)) (hj : j ≤ i + k') : classP L k' t i = some (u, j) := by
  induction k generalizing i t k' with
  | zero => simp [classP] at h
  | succ k ih =>
    have hgt := classP_gt h
    obtain ⟨k', rfl⟩ : ∃ m, k' = m + 1 := ⟨k' - 1, by omega⟩
    simp only [classP] at h ⊢
    split at h
    · rename_i hc; rw [if_pos hc]; exact h
    · rename_i hc
      rw [if_neg hc]
      obtain ⟨⟨x, m⟩, hx, hh⟩ := Option.bind_eq_some_iff.1 h
      rw [hx]
      exact ih hh (by have := lettersF_gt hx; show j ≤ m + k'; omega)
theorem classF_sfx {i j' : Nat} {u : Ws} (h : classF (P ++ W) (P.length + i) = some (u, j')) : ∃ j, j' = P.length + j ∧ classF W i = some (u, j) := by
  have key : ∀ (i : Nat) (t v : Ws) (q k : Nat), classP W k t i = some (v, q) → classP W (W.length + 1) t i = some (v, q) := fun i t v q k h => by
    refine classP_fuel h ?_
    have h2 := (classP_mid [] W [] h (Nat.le_refl k)).2.2
    omega
  unfold classF at h ⊢
  rw [nx_sfx] at h
  split at h
  · rename_i h94
    rw [if_pos h94]
    rw [Nat.add_assoc, classP_sfx] at h
    obtain ⟨⟨x, m⟩, hx, hh⟩ := Option.map_eq_some_iff.1 h
    obtain ⟨⟨y, q⟩, hy, hz⟩ := Option.map_eq_some_iff.1 hx
    injection hh with e1 e2
    injection hz with e3 e4
    refine ⟨q, by omega, ?_⟩
    rw [key _ _ _ _ _ hy, ← e1, ← e3]; rfl
  · rename_i h94
    rw [if_neg h94]
    rw [classP_sfx] at h
    obtain ⟨⟨y, q⟩, hy, hz⟩ := Option.map_eq_some_iff.1 h
    injection hz with e3 e4
    exact ⟨q, by omega, by rw [key _ _ _ _ _ hy, ← e3]⟩
theorem atomF_sfx {i j' : Nat} {u : Ws} (h : atomF (P ++ W) (P.length + i) = some (u, j')) : ∃ j, j' = P.length + j ∧ atomF W i = some (u, j) := by
  unfold atomF at h ⊢
  rw [nx_sfx] at h
  split at h
  · rename_i h1
    rw [if_pos h1]
    injection h with h; injection h with e1 e2
    exact ⟨i + 1, by omega, by rw [e1]⟩
  · rename_i h1
    rw [if_neg h1]
    split at h
    · rename_i h2
      rw [if_pos h2]
      rw [Nat.add_assoc] at h
      exact classF_sfx P W h
    · rename_i h2
      rw [if_neg h2]
      rw [letF_sfx] at h
      obtain ⟨⟨x, m⟩, hx, hh⟩ := Option.map_eq_some_iff.1 h
      obtain ⟨⟨y, q⟩, hy, hz⟩ := Option.map_eq_some_iff.1 hx
      injection hh with e1 e2
      injection hz with e3 e4
      exact ⟨q, by omega, by rw [hy, ← e1, ← e3]; rfl⟩

/-- Alternatives ahead of all that was read. -/
def addL (ws : List Rx) : List Grp → Grp → List Grp × Grp
  | [], g => ([], ⟨ws ++ g.ways, g.row⟩)
  | h :: t, g => (⟨ws ++ h.ways, h.row⟩ :: t, g)
theorem stepF_sfx (ws : List Rx) {i j' : Nat} {lo lo' : List Grp} {g g' : Grp} {f f' : Bool} (h : stepF (P ++ W) (P.length + i) (addL ws lo g).1 (addL ws lo g).2 f = some (j', lo', g', f')) :
    ∃ j lo1 g1, j' = P.length + j ∧ addL ws lo1 g1 = (lo', g') ∧ stepF W i lo g f = some (j, lo1, g1, f') := by
  unfold stepF at h ⊢
  rw [nx_sfx] at h
  split at h
  · rename_i h1
    rw [if_pos h1]
    injection h with h; injection h with e1 h; injection h with e2 h; injection h with e3 e4
    refine ⟨_, _, _, ?_, ?_, by rw [← e4]⟩
    · omega
    · rw [← e2, ← e3]
      cases lo with
      | nil => show (([] : List Grp), (⟨ws ++ (g.ways ++ [catR g.row]), []⟩ : Grp)) = ([], ⟨(ws ++ g.ways) ++ [catR g.row], []⟩); rw [List.append_assoc]
      | cons a t => rfl
  · rename_i h1
    rw [if_neg h1]
    split at h
    · rename_i h2
      rw [if_pos h2]
      injection h with h; injection h with e1 h; injection h with e2 h; injection h with e3 e4
      refine ⟨_, _, _, ?_, ?_, by rw [← e4]⟩
      · omega
      · rw [← e2, ← e3]
        cases lo with
        | nil => rfl
        | cons a t => rfl
    · rename_i h2
      rw [if_neg h2]
      split at h
      · rename_i h3
        cases lo with
        | nil => exact absurd rfl h3.2
        | cons a t =>
          rw [if_pos ⟨h3.1, by simp⟩]
          injection h with h; injection h with e1 h; injection h with e2 h; injection h with e3 e4
          refine ⟨_, _, _, ?_, ?_, by rw [← e4]⟩
          · omega
          · rw [← e2, ← e3]
            cases t with
            | nil => rfl
            | cons b t => rfl
      · rename_i h3
        have h3' : ¬ (nx W i = 41 ∧ lo ≠ []) := fun hh => h3 ⟨hh.1, by
          cases lo with
          | nil => exact absurd rfl hh.2
          | cons a t => simp [addL]⟩
        rw [if_neg h3']
        split at h
        · rename_i h4
          rw [if_pos h4]
          injection h with h; injection h with e1 h; injection h with e2 h; injection h with e3 e4
          refine ⟨_, _, _, ?_, ?_, by rw [← e4]⟩
          · omega
          · rw [← e2, ← e3]
            cases lo with
            | nil => rfl
            | cons a t => rfl
        · rename_i h4
          rw [if_neg h4]
          obtain ⟨⟨x, m⟩, hx, hh⟩ := Option.map_eq_some_iff.1 h
          injection hh with e1 hh; injection hh with e2 hh; injection hh with e3 e4
          obtain ⟨j, hj, ha⟩ := atomF_sfx P W hx
          refine ⟨j, lo, g.put (.set x), ?_, ?_, by rw [ha, ← e4]; rfl⟩
          · rw [← e1]; exact hj
          · rw [← e2, ← e3]
            cases lo with
            | nil => rfl
            | cons a t => rfl
theorem Run.sfx (ws : List Rx) {i' j' : Nat} {lo' lo'' : List Grp} {g' g'' : Grp} {f f' : Bool} (h : Run (P ++ W) i' lo' g' f j' lo'' g'' f') : ∀ (i : Nat) (lo : List Grp) (g : Grp), i' = P.length + i → addL ws lo g = (lo', g') →
    ∃ j lo1 g1, j' = P.length + j ∧ addL ws lo1 g1 = (lo'', g'') ∧ Run W i lo g f j lo1 g1 f' := by
  induction h with
  | nil i1 lo1 g1 f => exact fun i lo g h1 h2 => ⟨i, lo, g, h1, h2, .nil _ _ _ _⟩
  | cons h1 _ ih =>
    intro i lo g hi ha
    rw [hi] at h1
    have e1 := congrArg Prod.fst ha
    have e2 := congrArg Prod.snd ha
    dsimp only at e1 e2
    rw [← e1, ← e2] at h1
    obtain ⟨j, lo1, g1, h2, h3, h4⟩ := stepF_sfx P W ws h1
    obtain ⟨k, lo2, g2, h5, h6, h7⟩ := ih j lo1 g1 h2 h3
    exact ⟨k, lo2, g2, h5, h6, .cons h4 h7⟩
end

theorem orR_L (l : List Rx) (u : List UInt8) : (orR l).L u ↔ ∃ r ∈ l, r.L u := by
  induction l with
  | nil =>
    refine ⟨fun h => ?_, fun ⟨r, h, _⟩ => by cases h⟩
    obtain ⟨c, _, hc⟩ := h
    have : Ws.hasN ⟨0, 0, 0, 0⟩ c.toNat = true := hc
    unfold Ws.hasN Ws.word at this
    split at this <;> simp at this
  | cons a l ih =>
    cases l with
    | nil => show a.L u ↔ _; simp
    | cons b l =>
      show (a.L u ∨ (orR (b :: l)).L u) ↔ _
      rw [ih]; simp
theorem catR_one (r : Rx) : catR [r] = r := rfl
theorem orR_one (r : Rx) : orR [r] = r := rfl

theorem Run.stop {L : List UInt8} {i k : Nat} {lo lo' : List Grp} {g g' : Grp} {f f' : Bool} (h : Run L i lo g f k lo' g' f') (hi : L.length ≤ i) : g' = g := by
  cases h with
  | nil => rfl
  | cons h _ => have := stepF_lt h; omega
theorem nx_here (P M : List UInt8) (c : UInt8) : nx (P ++ c :: M) P.length = c.toNat := by
  unfold nx; simp
theorem step_bar {L : List UInt8} {i : Nat} (h : nx L i = 124) (lo : List Grp) (g : Grp) (f : Bool) : stepF L i lo g f = some (i + 1, lo, g.nextWay, false) := by unfold stepF; rw [if_pos h]
theorem step_open {L : List UInt8} {i : Nat} (h : nx L i = 40) (lo : List Grp) (g : Grp) (f : Bool) : stepF L i lo g f = some (i + 1, lo ++ [g], g0, false) := by
  unfold stepF; rw [if_neg (by omega), if_pos h]
theorem step_close {L : List UInt8} {i : Nat} (h : nx L i = 41) (lo : List Grp) (b g : Grp) (f : Bool) : stepF L i (lo ++ [b]) g f = some (i + 1, lo, b.put g.whole, true) := by
  unfold stepF; rw [if_neg (by omega), if_neg (by omega), if_pos ⟨h, by simp⟩]; simp
/-- What stands in brackets is a factor. -/
theorem run_group (P A M : List UInt8) {g : Grp} {f : Bool} (h : Run A 0 [] g0 false A.length [] g f) (lo : List Grp) (b : Grp) (fb : Bool) :
    Run (P ++ (40 :: A ++ 41 :: M)) P.length lo b fb (P.length + A.length + 2) lo (b.put g.whole) true := by
  have h1 : nx (P ++ (40 :: A ++ 41 :: M)) P.length = 40 := nx_here P (A ++ 41 :: M) 40
  have h2 : P ++ (40 :: A ++ 41 :: M) = (P ++ [40]) ++ A ++ (41 :: M) := by simp
  have h3 : nx (P ++ (40 :: A ++ 41 :: M)) (P.length + 1 + A.length) = 41 := by
    have := nx_here ((P ++ [40]) ++ A) M 41
    rw [h2, show P.length + 1 + A.length = P.length + (A.length + 1) by omega]
    simpa using this
  refine .cons (step_open h1 _ _ _) ?_
  have h4 := h.mid (P ++ [40]) A (41 :: M) (lo ++ [b])
  rw [← h2] at h4
  have e1 : (P ++ [40]).length = P.length + 1 := by simp
  rw [e1, List.append_nil] at h4
  refine h4.trans (.cons (step_close h3 _ _ _ _) ?_)
  rw [show P.length + 1 + A.length + 1 = P.length + A.length + 2 by omega]
  exact .nil _ _ _ _

/-- Alternatives in any order; brackets once more. -/
theorem turns_math (A B : List UInt8) (x y z n : Rx) (hx : parseF (40 :: A ++ 41 :: 124 :: 40 :: B ++ [41]) = some x) (hy : parseF (40 :: B ++ 41 :: 124 :: 40 :: A ++ [41]) = some y) (hz : parseF (40 :: 40 :: A ++ 41 :: 41 :: 124 :: 40 :: 40 :: A ++ [41, 41]) = some z) (hn : parseF A = some n) (u : List UInt8) :
    (x.L u ↔ y.L u) ∧ (z.L u ↔ n.L u) := by
  obtain ⟨gn, fn, rn, rfl⟩ := parseF_run hn
  obtain ⟨gx, fx, rx, rfl⟩ := parseF_run hx
  obtain ⟨gy, fy, ry, rfl⟩ := parseF_run hy
  obtain ⟨gz, fz, rz, rfl⟩ := parseF_run hz
  obtain ⟨W, hW⟩ : ∃ W, W = 40 :: B ++ [41] := ⟨_, rfl⟩
  obtain ⟨P, hP⟩ : ∃ P, P = 40 :: A ++ [41, 124] := ⟨_, rfl⟩
  have eX : (40 :: A ++ 41 :: 124 :: 40 :: B ++ [41] : List UInt8) = P ++ W := by rw [hP, hW]; simp
  have eY : (40 :: B ++ 41 :: 124 :: 40 :: A ++ [41] : List UInt8) = W ++ (124 :: 40 :: A ++ [41]) := by rw [hW]; simp
  -- x
  have hPl : P.length = A.length + 3 := by rw [hP]; simp
  have x1 := run_group [] A (124 :: W) rn [] g0 false
  have eX1 : (([] : List UInt8) ++ (40 :: A ++ 41 :: (124 :: W))) = P ++ W := by rw [hP]; simp
  rw [eX1] at x1
  have x2 : nx (P ++ W) (A.length + 2) = 124 := by
    have := nx_here (40 :: A ++ [41]) W 124
    rw [hP]
    simpa using this
  have x3 : Run (P ++ W) 0 [] g0 false P.length [] ⟨[gn.whole], []⟩ false := by
    have e0 : ([] : List UInt8).length + A.length + 2 = A.length + 2 := by simp
    rw [e0] at x1
    refine x1.trans (.cons (step_bar x2 _ _ _) ?_)
    rw [hPl]
    exact .nil _ _ _ _
  rw [eX] at rx
  have x4 := x3.by' rx stepF_end
  obtain ⟨j, lo1, g1, h1, h2, h3⟩ := x4.sfx P W [gn.whole] 0 [] g0 rfl rfl
  have hlo : lo1 = [] := by
    cases lo1 with
    | nil => rfl
    | cons a t => have := congrArg Prod.fst h2; simp [addL] at this
  subst hlo
  have hgx : gx = ⟨[gn.whole] ++ g1.ways, g1.row⟩ := (congrArg Prod.snd h2).symm
  have hj : j = W.length := by rw [List.length_append] at h1; omega
  subst hj
  -- y
  have y1 := h3.mid [] W (124 :: 40 :: A ++ [41]) []
  have eY1 : (([] : List UInt8) ++ W ++ (124 :: 40 :: A ++ [41])) = W ++ (124 :: 40 :: A ++ [41]) := by simp
  rw [eY1] at y1
  have y2 : nx (W ++ (124 :: 40 :: A ++ [41])) W.length = 124 := by
    have := nx_here W (40 :: A ++ [41]) 124
    simpa using this
  have y3 := run_group (W ++ [124]) A [] rn [] g1.nextWay false
  have eY2 : (W ++ [124] ++ (40 :: A ++ 41 :: [])) = W ++ (124 :: 40 :: A ++ [41]) := by simp
  rw [eY2] at y3
  have y4 : Run (W ++ (124 :: 40 :: A ++ [41])) 0 [] g0 false (W.length + 1 + A.length + 2) [] (g1.nextWay.put gn.whole) true := by
    have e0 : ([] : List UInt8).length = 0 := rfl
    rw [e0, Nat.zero_add, Nat.zero_add] at y1
    refine y1.trans (.cons (step_bar y2 _ _ _) ?_)
    have e1 : (W ++ [124]).length = W.length + 1 := by simp
    rw [e1] at y3
    exact y3
  rw [eY] at ry
  have y5 := y4.by' ry stepF_end
  have hgy : gy = g1.nextWay.put gn.whole := y5.stop (by simp; omega)
  -- z
  have z0 : Run (40 :: A ++ [41]) 0 [] g0 false (40 :: A ++ [41]).length [] (g0.put gn.whole) true := by
    have := run_group [] A [] rn [] g0 false
    have e0 : ([] : List UInt8).length + A.length + 2 = (40 :: A ++ [41]).length := by simp
    rw [e0] at this
    exact this
  have z1 := run_group [] (40 :: A ++ [41]) (124 :: 40 :: 40 :: A ++ [41, 41]) z0 [] g0 false
  have eZ1 : (([] : List UInt8) ++ (40 :: (40 :: A ++ [41]) ++ 41 :: (124 :: 40 :: 40 :: A ++ [41, 41]))) = 40 :: 40 :: A ++ 41 :: 41 :: 124 :: 40 :: 40 :: A ++ [41, 41] := by simp
  rw [eZ1] at z1
  have z2 := run_group (40 :: 40 :: A ++ [41, 41, 124]) (40 :: A ++ [41]) [] z0 [] (g0.put (g0.put gn.whole).whole).nextWay false
  have eZ2 : (40 :: 40 :: A ++ [41, 41, 124] ++ (40 :: (40 :: A ++ [41]) ++ 41 :: [])) = 40 :: 40 :: A ++ 41 :: 41 :: 124 :: 40 :: 40 :: A ++ [41, 41] := by simp
  rw [eZ2] at z2
  have z3 : nx (40 :: 40 :: A ++ 41 :: 41 :: 124 :: 40 :: 40 :: A ++ [41, 41]) (A.length + 4) = 124 := by
    have := nx_here (40 :: 40 :: A ++ [41, 41]) (40 :: 40 :: A ++ [41, 41]) 124
    simpa using this
  have ez : ([] : List UInt8).length + (40 :: A ++ [41] : List UInt8).length + 2 = A.length + 4 := by simp
  rw [ez] at z1
  rw [show (40 :: 40 :: A ++ [41, 41, 124] : List UInt8).length = A.length + 4 + 1 by simp] at z2
  have z4 := (z1.trans (.cons (step_bar z3 _ _ _) z2)).by' rz stepF_end
  have hgz : gz = (g0.put (g0.put gn.whole).whole).nextWay.put (g0.put gn.whole).whole := by
    exact z4.stop (by simp; omega)
  subst hgx; subst hgy; subst hgz
  constructor
  · show (orR ([gn.whole] ++ g1.ways ++ [catR g1.row])).L u ↔ (orR (g1.ways ++ [catR g1.row] ++ [catR ([] ++ [gn.whole])])).L u
    rw [orR_L, orR_L]
    simp only [List.nil_append, catR_one]
    constructor
    · rintro ⟨r, hr, hu⟩
      refine ⟨r, ?_, hu⟩
      simp at hr ⊢
      rcases hr with h | h | h <;> simp [h]
    · rintro ⟨r, hr, hu⟩
      refine ⟨r, ?_, hu⟩
      simp at hr ⊢
      rcases hr with h | h | h <;> simp [h]
  · have e1 : (g0.put gn.whole).whole = gn.whole := rfl
    rw [e1, show ((g0.put gn.whole).nextWay.put gn.whole).whole = orR [gn.whole, gn.whole] from rfl, orR_L]
    simp
end Go.Proofs.YtejdfpieblkapaaGreatDoor
