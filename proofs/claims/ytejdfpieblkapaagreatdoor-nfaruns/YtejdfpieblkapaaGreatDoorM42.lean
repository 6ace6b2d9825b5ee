/- Carried from another seat. -/
import Derived.Test.YtejdfpieblkapaaGreatDoorM33
namespace Go.Proofs.YtejdfpieblkapaaGreatDoor
open Go.RowKit Go.Shelf


section
variable {w0 w : World} {P : Nat} {s : ByteArray} {i : Nat} {d : Int} {st : Option (List Grp × Grp)}
theorem PS.open' (H : PS w0 w P s i d st) : ∃ ov l, PsB w P s i ov d l ∧ ∀ (w' : World) (i' : Nat) (d' : Int), Kb (fun j => j = P) w w' → PsB w' P s i' ov d' l → PS w0 w' P s i' d' st := by
  cases st with
  | none =>
    obtain ⟨h1, h2, h3⟩ := H
    exact ⟨_, _, h1, fun w' i' d' hk hp => ⟨hp, h2, h3.trans (hk.below h3.size (fun i he => by rw [show i = P from he]; exact h2))⟩⟩
  | some x =>
    obtain ⟨lo, g⟩ := x
    obtain ⟨G, cap, h⟩ := H
    exact ⟨_, _, h.ps, fun w' i' d' hk hp => ⟨G, cap, h.psk hk hp⟩⟩
theorem PS.below (H : PS w0 w P s i d st) {w' : World} (hb : Below w.heap.size w w') : PS w0 w' P s i d st := by
  obtain ⟨ov, l, h1, h2⟩ := H.open'
  exact h2 w' i d (Kb.of_below _ hb) (h1.below hb)
def putS (r : Rx) (x : List Grp × Grp) : List Grp × Grp := (x.1, x.2.put r)
set_option maxHeartbeats 1000000 in
theorem put_none (w : World) (P nb : Nat) (s : ByteArray) (i : Nat) (ov : Value) (d : Int) (H : PsB w P s i ov d true) :
    Calls Tryz.prog 130 #[ptr P, ptr nb] w fun e w' => e = .returned (.tuple #[]) ∧ w' = w := by
  obtain ⟨_, _, _, _, c4, _⟩ := ps_cells H
  clear H
  go_enter Tryz.func130, Tryz.ntmps130
  go_wp2
  go_end0
  exact ⟨rfl, rfl⟩
/-- A set is made, and put behind. -/
theorem putset (t : Ws) (H : PS w0 w P s i d st) (hb : ∀ lo g, st = some (lo, g) → lo.length ≤ 100 ∧ g.row.length ≤ 1000) :
    Calls Tryz.prog 137 #[wsV t] w fun e w1 => ∃ nb, e = .returned (ptr nb) ∧ Calls Tryz.prog 130 #[ptr P, ptr nb] w1 fun e w2 => e = .returned (.tuple #[]) ∧ PS w0 w2 P s i d (st.map (putS (.set t))) := by
  cases st with
  | none =>
    refine (set_q (fun _ => True) t w).mono ?_
    rintro e w1 ⟨nb, rfl, y1, y2⟩
    have H1 := H.below y2
    refine ⟨nb, rfl, (put_none w1 P nb s i _ d H1.1).mono ?_⟩
    rintro e w2 ⟨rfl, rfl⟩
    exact ⟨rfl, H1⟩
  | some x =>
    obtain ⟨lo, g⟩ := x
    obtain ⟨G, cap, ρ, vs, X, hf⟩ := H
    obtain ⟨b1, b2⟩ := hb lo g rfl
    refine (set_q (fun i => ρ i = 0) t w).mono ?_
    rintro e w1 ⟨nb, rfl, y1, y2⟩
    refine ⟨nb, rfl, (put_any w0 w1 P G cap s i d lo g (.set t) nb ⟨ρ, vs, X.below y2, fun i hi => hf i (Nat.le_trans y2.size hi), ndq_fresh hf y1⟩ b1 b2).mono ?_⟩
    rintro e w2 ⟨rfl, h⟩
    exact ⟨rfl, G, cap, h⟩
end
/-- What atom answers. -/
def AtTo (w0 : World) (P : Nat) (s : ByteArray) (i : Nat) (d : Int) (st : Option (List Grp × Grp)) (e : Ending) (w' : World) : Prop :=
  (∃ t j, atomF s.data.toList i = some (t, j) ∧ e = .returned (.bool true) ∧ PS w0 w' P s j d (st.map (putS (.set t)))) ∨ (atomF s.data.toList i = none ∧ e = .returned (.bool false) ∧ ∃ j, j ≤ s.size ∧ PS w0 w' P s j d st)

set_option maxRecDepth 100000 in
set_option maxHeartbeats 4000000 in
theorem atom_any (w0 w : World) (P : Nat) (s : ByteArray) (i : Nat) (d : Int) (st : Option (List Grp × Grp)) (H : PS w0 w P s i d st) (hb : ∀ lo g, st = some (lo, g) → lo.length ≤ 100 ∧ g.row.length ≤ 1000) (hi : i ≤ s.size) (hs : s.size ≤ 1000000) :
    Calls Tryz.prog 113 #[ptr P] w (AtTo w0 P s i d st) := by
  obtain ⟨ov, l, hp, hback⟩ := H.open'
  have hPl := lt_of_heap hp
  have hb0 : Below w.heap.size w (w.alloc (.cells #[.int .u64 0, .int .u64 0, .int .u64 0, .int .u64 0] 100)) := (Below.refl _ w).alloc (Nat.le_refl _) _
  have hA0 := alloc_ws w
  have hz0 : (w.alloc (.cells #[.int .u64 0, .int .u64 0, .int .u64 0, .int .u64 0] 100)).heap.size = w.heap.size + 1 := by simp
  have hp0 := hp.below hb0
  -- behind the reading: a set is put
  have hput : ∀ (w1 : World) (t : Ws) (j : Nat), Kb (fun j => j = P) w w1 → PsB w1 P s j ov d l → Calls Tryz.prog 137 #[wsV t] w1 fun e w1 => ∃ nb, e = .returned (ptr nb) ∧ Calls Tryz.prog 130 #[ptr P, ptr nb] w1 fun e w2 => e = .returned (.tuple #[]) ∧ PS w0 w2 P s j d (st.map (putS (.set t))) := fun w1 t j hk hp => putset t (hback w1 j d hk hp) hb
  have HPUT := Lib.hid hput; have HBACK := Lib.hid hback
  have HK0 := Lib.hid (Kb.of_below (fun j => j = P) hb0)
  have hat : atomF s.data.toList i = if nx s.data.toList i = 46 then some ((btw 10 1).inv 4, i + 1) else if nx s.data.toList i = 91 then classF s.data.toList (i + 1) else (letF OUT s.data.toList i).map fun x => (btw x.1 1, x.2) := rfl
  have HAT := Lib.hid hat
  clear hput hback H hb hat
  obtain ⟨w1, hw1⟩ : ∃ w1, w1 = w.alloc (.cells #[.int .u64 0, .int .u64 0, .int .u64 0, .int .u64 0] 100) := ⟨_, rfl⟩
  rw [← hw1] at hA0 hz0 hp0 HK0
  have HA0 := Lib.hid hA0
  have HW1 := Lib.hid hw1
  clear hp hb0 hA0
  by_cases h46 : nx s.data.toList i = 46
  · have hlt := nx_in h46 (by omega)
    have HT := Lib.hid (take_yes w1 P 46 s i ov d l hp0 hi hs h46 (by omega))
    rw [hw1] at HT
    have HATe := Lib.hid (show atomF s.data.toList i = some ((btw 10 1).inv 4, i + 1) by rw [HAT.out, if_pos h46])
    clear hp0 hw1
    go_enter Tryz.func113, Tryz.ntmps113
    go_wp2_with fail
    refine HT.out.mono ?_
    rintro e w2 ⟨rfl, h1, h2⟩
    rw [← HW1.out] at h2
    have HK2 := Lib.hid (HK0.out.trans h2 (fun _ _ h => h))
    have HP2 := Lib.hid h1
    have HA2 := Lib.hid ((h2.block _ (by omega) (by omega)).trans HA0.out)
    have hz2 := h2.size
    clear h1 h2
    go_wp2_with fail
    refine (between_any 10 10 w2 (by omega) (by omega)).mono ?_
    rintro e w3 ⟨rfl, h3⟩
    have HO := Lib.hid (others_any (btw 10 1) w3 (btw_ok _ _))
    have HB3 := Lib.hid h3
    clear h3
    generalize (btw 10 1).inv 4 = t at HO HATe
    generalize btw 10 1 = t1 at HO ⊢
    go_wp2_with fail
    refine HO.out.mono ?_
    rintro e w4 ⟨rfl, h4⟩
    have hb4 := below_tr HB3.out h4 HB3.out.size
    have hA4 := (hb4.block _ (by omega)).trans HA2.out
    obtain ⟨z0, z1, z2, z3, f0, f1, f2, f3⟩ := ws_cells hA4
    have hk5 := set4_kb w4 w.heap.size t
    have hKK := (HK2.out.trans (Kb.of_below (fun j => j = P) hb4) (fun _ _ h => h)).trans hk5 (fun i hi h => by have h' : i = w.heap.size := h; omega)
    have hPP : PsB _ P s (i + 1) ov d l := (hk5.block P (Nat.lt_of_lt_of_le (lt_of_heap HP2.out) hb4.size) (by omega)).trans (HP2.out.below hb4)
    have HS := Lib.hid (HPUT.out _ t (i + 1) hKK hPP)
    clear h4 hb4 hA4 hk5 hKK hPP
    go_wp2_with fail
    refine HS.out.mono ?_
    rintro e w5 ⟨nb, rfl, h5⟩
    have H5 := Lib.hid h5
    clear h5
    go_wp2_with fail
    refine H5.out.mono ?_
    rintro e w6 ⟨rfl, h6⟩
    have H6 := Lib.hid h6
    clear h6
    go_wp2
    go_ret
    exact .inl ⟨t, i + 1, HATe.out, rfl, H6.out⟩
  · have HTn := Lib.hid (take_no w1 P 46 s i ov d l hp0 hi hs h46)
    rw [hw1] at HTn
    by_cases h91 : nx s.data.toList i = 91
    · have hlt := nx_in h91 (by omega)
      have HATe := Lib.hid (show atomF s.data.toList i = classF s.data.toList (i + 1) by rw [HAT.out, if_neg h46, if_pos h91])
      have HT := Lib.hid (fun (w' : World) h => take_yes w' P 91 s i ov d l h hi hs h91 (by omega))
      have HCL := Lib.hid (fun (w' : World) h => class_any w' P s (i + 1) ov d l h (by omega) hs)
      clear hp0 hw1
      go_enter Tryz.func113, Tryz.ntmps113
      go_wp2_with fail
      refine HTn.out.mono ?_
      rintro e w1' ⟨rfl, h1, h1b⟩
      rw [← HW1.out] at h1b
      have HK1 := Lib.hid (HK0.out.trans (Kb.of_below (fun j => j = P) h1b) (fun _ _ h => h))
      have HA1 := Lib.hid ((h1b.block _ (by omega)).trans HA0.out)
      have hz1 := h1b.size
      have HT1 := Lib.hid (HT.out w1' h1)
      clear h1 h1b
      go_wp2_with fail
      refine HT1.out.mono ?_
      rintro e w2 ⟨rfl, h1, h2⟩
      have HK2 := Lib.hid (HK1.out.trans h2 (fun _ _ h => h))
      have HA2 := Lib.hid ((h2.block _ (by omega) (by omega)).trans HA1.out)
      have hz2 := h2.size
      have HC2 := Lib.hid (HCL.out w2 h1)
      clear h1 h2
      go_wp2_with fail
      refine HC2.out.mono ?_
      rintro e w3 ⟨q1, q2⟩
      have hz3 := q1.size
      have hK3 := HK2.out.trans q1 (fun _ _ h => h)
      have hA3 := (q1.block _ (by omega) (by omega)).trans HA2.out
      obtain ⟨z0, z1, z2, z3, f0, f1, f2, f3⟩ := ws_cells hA3
      rcases q2 with ⟨t, j, hr, rfl, hpp⟩ | ⟨hr, t, rfl, j, hj, hpp⟩
      · have hk5 := set4_kb w3 w.heap.size t
        have hKK := hK3.trans hk5 (fun i hi h => by have h' : i = w.heap.size := h; omega)
        have hPP : PsB _ P s j ov d l := (hk5.block P (lt_of_heap hpp) (by omega)).trans hpp
        have HS := Lib.hid (HPUT.out _ t j hKK hPP)
        have HR := Lib.hid hr
        clear q1 hK3 hA3 hr hpp hk5 hKK hPP
        go_wp2_with fail
        refine HS.out.mono ?_
        rintro e w5 ⟨nb, rfl, h5⟩
        have H5 := Lib.hid h5
        clear h5
        go_wp2_with fail
        refine H5.out.mono ?_
        rintro e w6 ⟨rfl, h6⟩
        have H6 := Lib.hid h6
        clear h6
        go_wp2
        go_ret
        exact .inl ⟨t, j, by rw [HATe.out, HR.out], rfl, H6.out⟩
      · have hk5 := set4_kb w3 w.heap.size t
        have hKK := hK3.trans hk5 (fun i hi h => by have h' : i = w.heap.size := h; omega)
        have hPP : PsB _ P s j ov d l := (hk5.block P (lt_of_heap hpp) (by omega)).trans hpp
        have HS := Lib.hid (HBACK.out _ j d hKK hPP)
        have HR := Lib.hid hr
        clear q1 hK3 hA3 hr hpp hk5 hKK hPP
        go_wp2
        go_ret
        exact .inr ⟨by rw [HATe.out, HR.out], rfl, j, hj, HS.out⟩
    · have HATe := Lib.hid (show atomF s.data.toList i = (letF OUT s.data.toList i).map fun x => (btw x.1 1, x.2) by rw [HAT.out, if_neg h46, if_neg h91])
      have HT := Lib.hid (fun (w' : World) h => take_no w' P 91 s i ov d l h hi hs h91)
      have HCL := Lib.hid (fun (w' : World) h => letter_any w' P OUT s i ov d l h hi hs out0)
      have hlf := fun b j h => letF_ok (sp := OUT) (s := s) (i := i) (b := b) (j := j) h hi out0
      have HLF := Lib.hid hlf
      clear hp0 hw1 hlf
      go_enter Tryz.func113, Tryz.ntmps113
      go_wp2_with fail
      refine HTn.out.mono ?_
      rintro e w1' ⟨rfl, h1, h1b⟩
      rw [← HW1.out] at h1b
      have HK1 := Lib.hid (HK0.out.trans (Kb.of_below (fun j => j = P) h1b) (fun _ _ h => h))
      have HA1 := Lib.hid ((h1b.block _ (by omega)).trans HA0.out)
      have hz1 := h1b.size
      have HT1 := Lib.hid (HT.out w1' h1)
      clear h1 h1b
      go_wp2_with fail
      refine HT1.out.mono ?_
      rintro e w2 ⟨rfl, h1, h2⟩
      have HK2 := Lib.hid (HK1.out.trans (Kb.of_below (fun j => j = P) h2) (fun _ _ h => h))
      have HA2 := Lib.hid ((h2.block _ (by omega)).trans HA1.out)
      have hz2 := h2.size
      have HC2 := Lib.hid (HCL.out w2 h1)
      clear h1 h2
      go_wp2_with fail
      refine HC2.out.mono ?_
      rintro e w3 ⟨q1, q2⟩
      have hz3 := q1.size
      have HK3 := Lib.hid (HK2.out.trans q1 (fun _ _ h => h))
      have HA3 := Lib.hid ((q1.block _ (by omega) (by omega)).trans HA2.out)
      rcases q2 with ⟨t, j, hr, rfl, hpp⟩ | ⟨hr, rfl, j, hj, hpp⟩
      · have htl := (HLF.out t j hr).1
        have HBT := Lib.hid (between_any t t w3 htl htl)
        rw [show t + 1 - t = 1 by omega] at HBT
        have HR := Lib.hid hr; have HPP := Lib.hid hpp
        clear q1 hr hpp htl
        go_wp2_with fail
        refine HBT.out.mono ?_
        rintro e w4 ⟨rfl, h4⟩
        have hA4 := (h4.block _ (by omega)).trans HA3.out
        obtain ⟨z0, z1, z2, z3, f0, f1, f2, f3⟩ := ws_cells hA4
        have hk5 := set4_kb w4 w.heap.size (btw t 1)
        have hKK := (HK3.out.trans (Kb.of_below (fun j => j = P) h4) (fun _ _ h => h)).trans hk5 (fun i hi h => by have h' : i = w.heap.size := h; omega)
        have hPP : PsB _ P s j ov d l := (hk5.block P (Nat.lt_of_lt_of_le (lt_of_heap HPP.out) h4.size) (by omega)).trans (HPP.out.below h4)
        have HS := Lib.hid (HPUT.out _ (btw t 1) j hKK hPP)
        have hfin : atomF s.data.toList i = some (btw t 1, j) := by rw [HATe.out, HR.out]; rfl
        have HFI := Lib.hid hfin
        generalize btw t 1 = u at HS HFI z0 z1 z2 z3 f0 f1 f2 f3 ⊢
        clear h4 hA4 hk5 hKK hPP hfin
        go_wp2_with fail
        refine HS.out.mono ?_
        rintro e w5 ⟨nb, rfl, h5⟩
        have H5 := Lib.hid h5
        clear h5
        go_wp2_with fail
        refine H5.out.mono ?_
        rintro e w6 ⟨rfl, h6⟩
        have H6 := Lib.hid h6
        clear h6
        go_wp2
        go_ret
        exact .inl ⟨u, j, HFI.out, rfl, H6.out⟩
      · have HBT := Lib.hid (between_any 0 0 w3 (by omega) (by omega))
        rw [show 0 + 1 - 0 = 1 by omega] at HBT
        have HR := Lib.hid hr; have HPP := Lib.hid hpp
        clear q1 hr hpp
        go_wp2_with fail
        refine HBT.out.mono ?_
        rintro e w4 ⟨rfl, h4⟩
        have hA4 := (h4.block _ (by omega)).trans HA3.out
        obtain ⟨z0, z1, z2, z3, f0, f1, f2, f3⟩ := ws_cells hA4
        have hk5 := set4_kb w4 w.heap.size (btw 0 1)
        have hKK := (HK3.out.trans (Kb.of_below (fun j => j = P) h4) (fun _ _ h => h)).trans hk5 (fun i hi h => by have h' : i = w.heap.size := h; omega)
        have hPP : PsB _ P s j ov d l := (hk5.block P (Nat.lt_of_lt_of_le (lt_of_heap HPP.out) h4.size) (by omega)).trans (HPP.out.below h4)
        have HS := Lib.hid (HBACK.out _ j d hKK hPP)
        have hfin : atomF s.data.toList i = none := by rw [HATe.out, HR.out]; rfl
        have HFI := Lib.hid hfin
        generalize btw 0 1 = u at HS ⊢
        clear h4 hA4 hk5 hKK hPP hfin
        go_wp2
        go_ret
        exact .inr ⟨HFI.out, rfl, j, hj, HS.out⟩
end Go.Proofs.YtejdfpieblkapaaGreatDoor

/- Carried from another seat. -/
namespace Go.Proofs.YtejdfpieblkapaaGreatDoor
open Go.RowKit Go.Shelf


section
variable {w0 w : World} {P : Nat} {s : ByteArray} {i : Nat} {d : Int} {st : Option (List Grp × Grp)}
theorem PS.cells (H : PS w0 w P s i d st) : w.cell? ⟨P, 0, none⟩ = some (.string s) ∧ w.cell? ⟨P, 1, none⟩ = some (.int .i64 i) ∧ w.cell? ⟨P, 3, none⟩ = some (.int .i64 d) := by
  obtain ⟨ov, l, h1, _⟩ := H.open'
  obtain ⟨c0, c1, _, c3, _, _⟩ := ps_cells h1
  exact ⟨c0, c1, c3⟩
theorem PS.bel (H : PS w0 w P s i d st) : Below w0.heap.size w0 w := by
  cases st with
  | none => exact H.2.2
  | some x => obtain ⟨lo, g⟩ := x; obtain ⟨G, cap, h⟩ := H; exact h.bel
theorem ptake_no (c : Nat) (H : PS w0 w P s i d st) (hi : i ≤ s.size) (hs : s.size ≤ 1000000) (hc : nx s.data.toList i ≠ c) : Calls Tryz.prog 106 #[ptr P, .int .u8 c] w fun e w' => e = .returned (.bool false) ∧ PS w0 w' P s i d st := by
  obtain ⟨ov, l, h1, h2⟩ := H.open'
  refine (take_no w P c s i ov d l h1 hi hs hc).mono ?_
  rintro e w' ⟨rfl, h3, h4⟩
  exact ⟨rfl, h2 w' i d (Kb.of_below _ h4) h3⟩
theorem ptake_yes (c : Nat) (H : PS w0 w P s i d st) (hi : i ≤ s.size) (hs : s.size ≤ 1000000) (hc : nx s.data.toList i = c) (hc0 : 0 < c) : Calls Tryz.prog 106 #[ptr P, .int .u8 c] w fun e w' => e = .returned (.bool true) ∧ PS w0 w' P s (i + 1) d st := by
  obtain ⟨ov, l, h1, h2⟩ := H.open'
  refine (take_yes w P c s i ov d l h1 hi hs hc hc0).mono ?_
  rintro e w' ⟨rfl, h3, h4⟩
  exact ⟨rfl, h2 w' (i + 1) d h4 h3⟩
theorem pnext (H : PS w0 w P s i d st) (hi : i ≤ s.size) (hs : s.size ≤ 1000000) : Calls Tryz.prog 111 #[ptr P] w fun e w' => e = .returned (.int .u8 (nx s.data.toList i)) ∧ PS w0 w' P s i d st := by
  obtain ⟨ov, l, h1, h2⟩ := H.open'
  refine (next_any w P s i ov d l h1 hi hs).mono ?_
  rintro e w' ⟨rfl, h3, h4⟩
  exact ⟨rfl, h2 w' i d (Kb.of_below _ h4) h3⟩
theorem PS.kb_none {w' : World} {i' : Nat} {d' : Int} (H : PS w0 w P s i d none) (hk : Kb (fun j => j = P) w w') (hp : PsB w' P s i' (.slice none 0 0) d' true) : PS w0 w' P s i' d' none := by
  obtain ⟨_, h2, h3⟩ := H
  exact ⟨hp, h2, h3.trans (hk.below h3.size (fun i he => by rw [show i = P from he]; exact h2))⟩
/-- What is read is not too much. -/
def Fit (st : Option (List Grp × Grp)) : Prop := ∀ lo g, st = some (lo, g) → lo.length ≤ 50 ∧ gsz (lo ++ [g]) ≤ 400
theorem Fit.ok {lo : List Grp} {g : Grp} (h : Fit (some (lo, g))) : lo.length ≤ 50 ∧ g.Ok ∧ g.size ≤ 400 ∧ gsz lo + g.size ≤ 400 := by
  obtain ⟨h1, h2⟩ := h lo g rfl
  rw [gsz_append, gsz_one] at h2
  have h3 : g.size = szs g.ways + szs g.row := rfl
  have h4 := szs_len g.ways
  have h5 := szs_len g.row
  exact ⟨h1, ⟨by omega, by omega, fun r hr => by have := szs_mem hr; omega, by omega⟩, by omega, by omega⟩
def nextS (x : List Grp × Grp) : List Grp × Grp := (x.1, x.2.nextWay)
def openS (x : List Grp × Grp) : List Grp × Grp := (x.1 ++ [x.2], g0)
def closeS (x : List Grp × Grp) : List Grp × Grp := (x.1.dropLast, (x.1.getLast?.getD g0).put x.2.whole)
def repS (c : Nat) (x : List Grp × Grp) : List Grp × Grp := (x.1, x.2.rep c)
theorem palt (H : PS w0 w P s i d st) (hf : Fit st) : Calls Tryz.prog 107 #[ptr P] w fun e w' => e = .returned (.tuple #[]) ∧ PS w0 w' P s i d (st.map nextS) := by
  cases st with
  | none =>
    refine (alt_none w P s i _ d H.1).mono ?_
    rintro e w' ⟨rfl, rfl⟩
    exact ⟨rfl, H⟩
  | some x =>
    obtain ⟨lo, g⟩ := x
    obtain ⟨G, cap, h⟩ := H
    obtain ⟨h1, h2, _, _⟩ := hf.ok
    refine (alt_some w0 w P G cap s i d lo g h h2 (by omega)).mono ?_
    rintro e w' ⟨rfl, h3⟩
    exact ⟨rfl, G, cap, h3⟩
theorem pbegin {d : Nat} (H : PS w0 w P s i d st) (hf : Fit st) (hd : d ≤ 1000000) : Calls Tryz.prog 108 #[ptr P] w fun e w' => e = .returned (.tuple #[]) ∧ PS w0 w' P s i ((d + 1 : Nat) : Int) (st.map openS) := by
  cases st with
  | none =>
    refine (begin_none w P s i _ d H.1 hd).mono ?_
    rintro e w' ⟨rfl, h1, h2⟩
    exact ⟨rfl, H.kb_none h2 h1⟩
  | some x =>
    obtain ⟨lo, g⟩ := x
    obtain ⟨G, cap, h⟩ := H
    obtain ⟨h1, h2, _, _⟩ := hf.ok
    refine (begin_pi w0 w P G cap s i d (lo ++ [g]) h (by simp; omega) hd).mono ?_
    rintro e w' ⟨rfl, G', cap', h3⟩
    exact ⟨rfl, G', cap', h3⟩
theorem pend {d : Nat} (H : PS w0 w P s i ((d + 1 : Nat) : Int) st) (hf : Fit st) (hd : d ≤ 1000000) (hne : ∀ lo g, st = some (lo, g) → lo ≠ []) : Calls Tryz.prog 109 #[ptr P] w fun e w' => e = .returned (.tuple #[]) ∧ PS w0 w' P s i d (st.map closeS) := by
  cases st with
  | none =>
    refine (end_none w P s i _ d H.1 hd).mono ?_
    rintro e w' ⟨rfl, h1, h2⟩
    exact ⟨rfl, H.kb_none h2 h1⟩
  | some x =>
    obtain ⟨lo, g⟩ := x
    obtain ⟨G, cap, h⟩ := H
    obtain ⟨h1, h2, _, h4⟩ := hf.ok
    rcases List.eq_nil_or_concat lo with e | ⟨lo, b, rfl⟩
    · exact absurd e (hne lo g rfl)
    · rw [List.concat_eq_append] at *
      have hb : b.row.length ≤ 1000 := by
        have := szs_len b.row
        have h5 : b.size = szs b.ways + szs b.row := rfl
        rw [gsz_append, gsz_one] at h4
        omega
      refine (end_some w0 w P G cap s i d lo b g h h2 (by simp at h1; omega) hd hb).mono ?_
      rintro e w' ⟨rfl, h3⟩
      refine ⟨rfl, G, cap, ?_⟩
      have e1 : closeS (lo ++ [b], g) = (lo, b.put g.whole) := by unfold closeS; simp
      show PI w0 w' P G cap s i d ((closeS (lo ++ [b], g)).1 ++ [(closeS (lo ++ [b], g)).2])
      rw [e1]; exact h3
theorem prepeat (H : PS w0 w P s i d st) (hf : Fit st) (hi : i < s.size) (hs : s.size ≤ 1000000) (hne : ∀ lo g, st = some (lo, g) → g.row ≠ []) : Calls Tryz.prog 112 #[ptr P] w fun e w' => e = .returned (.tuple #[]) ∧ PS w0 w' P s (i + 1) d (st.map (repS (nx s.data.toList i))) := by
  cases st with
  | none =>
    refine (repeat_none w P s i _ d H.1 hi hs).mono ?_
    rintro e w' ⟨rfl, h1, h2⟩
    exact ⟨rfl, H.kb_none h2 h1⟩
  | some x =>
    obtain ⟨lo, g⟩ := x
    obtain ⟨G, cap, h⟩ := H
    obtain ⟨h1, h2, _, h4⟩ := hf.ok
    rcases List.eq_nil_or_concat g.row with e | ⟨rs, z, hz⟩
    · exact absurd e (hne lo g rfl)
    · rw [List.concat_eq_append] at hz
      refine (repeat_some w0 w P G cap s i d lo g rs z hz h h2 (by omega) hi hs).mono ?_
      rintro e w' ⟨rfl, h3⟩
      exact ⟨rfl, G, cap, h3⟩
theorem patom (H : PS w0 w P s i d st) (hf : Fit st) (hi : i ≤ s.size) (hs : s.size ≤ 1000000) : Calls Tryz.prog 113 #[ptr P] w (AtTo w0 P s i d st) := atom_any w0 w P s i d st H (fun lo g e => by
  subst e
  obtain ⟨h1, h2, _, _⟩ := hf.ok
  have := h2.row
  omega) hi hs
end

/-- Where a factor stands just ahead, there is one. -/
def RowNe (f : Bool) (g : Grp) : Prop := f = true → g.row ≠ []
/-- Between rounds: what is still to be read tells what the parser answers. -/
def RdS (w0 : World) (P : Nat) (s : ByteArray) (k : Nat) (f : Bool) (wr : World) : Prop :=
  ∃ (i d : Nat) (st : Option (List Grp × Grp)), i ≤ s.size ∧ s.size + 1 ≤ k + i ∧ d ≤ i ∧ PS w0 wr P s i d st ∧ Fit st ∧
    (st = none → parseF s.data.toList = none) ∧ (∀ lo g, st = some (lo, g) → parseF s.data.toList = runF s.data.toList k i lo g f ∧ d = lo.length ∧ RowNe f g)
/-- Ahead of weigh. -/
def BrS (w0 : World) (P : Nat) (s : ByteArray) (k : Nat) (f : Bool) (wr : World) : Prop :=
  ∃ (i d : Nat) (st : Option (List Grp × Grp)), i ≤ s.size ∧ s.size + 1 ≤ k + i ∧ d ≤ i ∧ PS w0 wr P s i d st ∧
    (st = none → parseF s.data.toList = none) ∧ (∀ lo g, st = some (lo, g) → parseF s.data.toList = (if heavy lo g = true then none else runF s.data.toList k i lo g f) ∧ d = lo.length ∧ RowNe f g ∧ lo.length ≤ 51 ∧ gsz (lo ++ [g]) ≤ 100000)
theorem weigh_br {w0 w : World} {P : Nat} {s : ByteArray} {k : Nat} {f : Bool} (H : BrS w0 P s k f w) (hs : s.size ≤ 1000000) : Calls Tryz.prog 114 #[ptr P] w fun e w' => e = .returned (.tuple #[]) ∧ RdS w0 P s k f w' := by
  obtain ⟨i, d, st, h1, h2, h3, h4, h5, h6⟩ := H
  cases st with
  | none =>
    refine (weigh_none w P s i d h4.1 (by omega)).mono ?_
    rintro e w' ⟨rfl, h7, h8⟩
    exact ⟨rfl, i, d, none, h1, h2, h3, h4.kb_none h8 h7, fun _ _ e => (by cases e), h5, fun _ _ e => (by cases e)⟩
  | some x =>
    obtain ⟨lo, g⟩ := x
    obtain ⟨a1, a2, a3, a4, a5⟩ := h6 lo g rfl
    obtain ⟨G, cap, h⟩ := h4
    refine (weigh_some w0 w P G cap s i d (lo ++ [g]) h a5 (by simp; omega) (by omega)).mono ?_
    rintro e w' ⟨rfl, h7, h8⟩
    refine ⟨rfl, ?_⟩
    by_cases hh : 400 < gsz (lo ++ [g]) ∨ 50 < d
    · obtain ⟨h9, h10⟩ := h7 hh
      have hhv : heavy lo g = true := by unfold heavy; rw [← a2]; exact decide_eq_true hh
      rw [if_pos hhv] at a1
      have hPw : w0.heap.size ≤ P := by
        obtain ⟨ρ, vs, X, _⟩ := h
        exact X.lo (.inr rfl)
      exact ⟨i, d, none, h1, h2, h3, ⟨h9, hPw, h.bel.trans (h10.below h.bel.size (fun i he => by rw [show i = P from he]; exact hPw))⟩, fun _ _ e => (by cases e), fun _ => a1, fun _ _ e => (by cases e)⟩
    · rw [h8 hh]
      have hhv : ¬ heavy lo g = true := by unfold heavy; rw [← a2]; intro e; exact hh (of_decide_eq_true e)
      rw [if_neg hhv] at a1
      refine ⟨i, d, some (lo, g), h1, h2, h3, ⟨G, cap, h⟩, fun lo' g' e => ?_, fun e => (by cases e), fun lo' g' e => ?_⟩
      · injection e with e; injection e with e1 e2; subst e1; subst e2; omega
      · injection e with e; injection e with e1 e2; subst e1; subst e2; exact ⟨a1, a2, a3⟩
/-- A step was done. -/
theorem br_of_step {w0 w : World} {P : Nat} {s : ByteArray} {k i j d d' : Nat} {f f' : Bool} {st : Option (List Grp × Grp)} (F : List Grp × Grp → List Grp × Grp) (hk : s.size + 1 ≤ k + 1 + i) (hi : i < s.size) (hij : i < j) (hj : j ≤ s.size) (hd : d' ≤ j) (hst0 : st = none → parseF s.data.toList = none) (hst : ∀ lo g, st = some (lo, g) → parseF s.data.toList = runF s.data.toList (k + 1) i lo g f ∧ d = lo.length ∧ RowNe f g) (hf : Fit st)
    (hF : ∀ lo g, st = some (lo, g) → stepF s.data.toList i lo g f = some (j, (F (lo, g)).1, (F (lo, g)).2, f') ∧ d' = (F (lo, g)).1.length ∧ RowNe f' (F (lo, g)).2 ∧ (F (lo, g)).1.length ≤ lo.length + 1 ∧ gsz ((F (lo, g)).1 ++ [(F (lo, g)).2]) ≤ 100000)
    (H : PS w0 w P s j d' (st.map F)) : BrS w0 P s k f' w := by
  refine ⟨j, d', st.map F, hj, by omega, hd, H, fun e => hst0 (by cases st with | none => rfl | some x => simp at e), fun lo g e => ?_⟩
  cases st with
  | none => simp at e
  | some x =>
    obtain ⟨lo1, g1⟩ := x
    have e' : F (lo1, g1) = (lo, g) := by simpa using e
    obtain ⟨b1, b2, b3, b4, b5⟩ := hF lo1 g1 rfl
    obtain ⟨c1, c2, c3⟩ := hst lo1 g1 rfl
    rw [e'] at b1 b2 b3 b4 b5
    dsimp only at b1 b2 b3 b4 b5
    obtain ⟨d1, _⟩ := hf lo1 g1 rfl
    refine ⟨?_, b2, b3, by omega, b5⟩
    rw [c1]
    simp only [runF]
    rw [if_pos (by rw [← Lib.size_eq]; exact hi), b1]
end Go.Proofs.YtejdfpieblkapaaGreatDoor

/- Carried from another seat. -/
namespace Go.Proofs.YtejdfpieblkapaaGreatDoor
open Go.RowKit Go.Shelf


theorem repF_size (r : Rx) (c : Nat) : (repF r c).size ≤ 2 * r.size + 2 := by
  unfold repF
  split
  · show 1 + r.size ≤ _; omega
  · split
    · show 1 + r.size + (1 + r.size) ≤ _; omega
    · show 1 + r.size + 1 ≤ _; have := r.size_pos; omega
theorem whole_size (g : Grp) : g.whole.size ≤ 2 * (szs g.ways + (2 * szs g.row + 1)) + 1 := by
  have h1 := orR_size (g.ways ++ [catR g.row])
  have h2 := catR_size g.row
  rw [szs_append, szs_cons, szs_nil] at h1
  show (orR (g.ways ++ [catR g.row])).size ≤ _
  omega
section
variable {lo : List Grp} {g : Grp} (h : Fit (some (lo, g)))
include h
theorem sz_next : gsz (lo ++ [g.nextWay]) ≤ 100000 := by
  obtain ⟨_, _, h3, h4⟩ := h.ok
  rw [gsz_append, gsz_one]
  have e : g.nextWay.size = szs (g.ways ++ [catR g.row]) + szs [] := rfl
  have e2 : g.size = szs g.ways + szs g.row := rfl
  have := catR_size g.row
  rw [e, szs_append, szs_cons, szs_nil]; omega
theorem sz_open : gsz (lo ++ [g] ++ [g0]) ≤ 100000 := by
  obtain ⟨_, _, h3, h4⟩ := h.ok
  rw [gsz_append, gsz_append, gsz_one, gsz_one]
  have e : g0.size = 0 := rfl
  omega
theorem sz_close : gsz (lo.dropLast ++ [(lo.getLast?.getD g0).put g.whole]) ≤ 100000 := by
  obtain ⟨_, _, h3, h4⟩ := h.ok
  have e2 : g.size = szs g.ways + szs g.row := rfl
  have h5 := whole_size g
  have e3 : ∀ b : Grp, (b.put g.whole).size = b.size + g.whole.size := fun b => by
    show szs b.ways + szs (b.row ++ [g.whole]) = szs b.ways + szs b.row + _
    rw [szs_append, szs_cons, szs_nil]; omega
  rw [gsz_append, gsz_one, e3]
  rcases List.eq_nil_or_concat lo with rfl | ⟨lo, b, rfl⟩
  · have : g0.size = 0 := rfl
    simp [gsz]; omega
  · rw [List.concat_eq_append] at h4 ⊢
    rw [gsz_append, gsz_one] at h4
    simp; omega
theorem sz_rep (c : Nat) : gsz (lo ++ [g.rep c]) ≤ 100000 := by
  obtain ⟨_, _, h3, h4⟩ := h.ok
  rw [gsz_append, gsz_one]
  have e2 : g.size = szs g.ways + szs g.row := rfl
  have e : (g.rep c).size = szs g.ways + szs (g.row.dropLast ++ [repF (g.row.getLast?.getD .empty) c]) := rfl
  have h5 := repF_size (g.row.getLast?.getD .empty) c
  rw [e, szs_append, szs_cons, szs_nil]
  rcases List.eq_nil_or_concat g.row with hr | ⟨rs, z, hr⟩
  · rw [hr] at h5 ⊢
    have : Rx.empty.size = 1 := rfl
    simp only [List.getLast?_nil, Option.getD_none, List.dropLast_nil, szs_nil] at h5 ⊢
    omega
  · rw [List.concat_eq_append] at hr
    rw [hr, szs_append, szs_cons, szs_nil] at e2
    rw [hr] at h5 ⊢
    simp only [List.getLast?_append, List.getLast?_singleton, Option.some_or, Option.getD_some, List.dropLast_concat] at h5 ⊢
    omega
theorem sz_put (t : Ws) : gsz (lo ++ [g.put (.set t)]) ≤ 100000 := by
  obtain ⟨_, _, h3, h4⟩ := h.ok
  rw [gsz_append, gsz_one]
  have e2 : g.size = szs g.ways + szs g.row := rfl
  have e : (g.put (.set t)).size = szs g.ways + szs (g.row ++ [.set t]) := rfl
  have e3 : (Rx.set t).size = 1 := rfl
  rw [e, szs_append, szs_cons, szs_nil]; omega
end
/-- What read answers. -/
def RdPost (w0 : World) (P : Nat) (s : ByteArray) (e : Ending) (w' : World) : Prop :=
  (∃ g G cap i d, e = .returned (.bool true) ∧ PI w0 w' P G cap s i d [g] ∧ parseF s.data.toList = finF [] g ∧ g.Ok) ∨ (∃ i d, e = .returned (.bool true) ∧ PS w0 w' P s i d none ∧ parseF s.data.toList = none) ∨ (e = .returned (.bool false) ∧ parseF s.data.toList = none ∧ ∃ i d st, PS w0 w' P s i d st)

theorem none_of_step {s : ByteArray} {k i : Nat} {f : Bool} {st : Option (List Grp × Grp)} (hi : i < s.size) (hst0 : st = none → parseF s.data.toList = none) (hst : ∀ lo g, st = some (lo, g) → parseF s.data.toList = runF s.data.toList (k + 1) i lo g f ∧ stepF s.data.toList i lo g f = none) : parseF s.data.toList = none := by
  cases st with
  | none => exact hst0 rfl
  | some x =>
    obtain ⟨lo, g⟩ := x
    obtain ⟨h1, h2⟩ := hst lo g rfl
    rw [h1]
    simp only [runF]
    rw [if_pos (by rw [← Lib.size_eq]; exact hi), h2]

/-- At the text's end. -/
theorem read_end {w0 w1 : World} {P : Nat} {s : ByteArray} {k d : Nat} {f : Bool} {st : Option (List Grp × Grp)} (hk : 1 ≤ k) (hlen : s.data.toList.length = s.size) (HP : PS w0 w1 P s s.size d st) (HF : Fit st) (HN : st = none → parseF s.data.toList = none) (HS : ∀ lo g, st = some (lo, g) → parseF s.data.toList = runF s.data.toList k s.size lo g f ∧ d = lo.length ∧ RowNe f g) : RdPost w0 P s (.returned (.bool ((d : Int) == 0))) w1 := by
  have hd0 : ((d : Int) == 0) = decide (d = 0) := by
    rw [Bool.eq_iff_iff]; simp
  rw [hd0]
  cases st with
  | none =>
    by_cases hd : d = 0
    · rw [decide_eq_true hd]
      exact .inr (.inl ⟨_, _, rfl, HP, HN rfl⟩)
    · rw [decide_eq_false hd]
      exact .inr (.inr ⟨rfl, HN rfl, _, _, _, HP⟩)
  | some x =>
    obtain ⟨lo, g⟩ := x
    obtain ⟨a1, a2, a3⟩ := HS lo g rfl
    have hrun : parseF s.data.toList = finF lo g := by
      rw [a1]
      obtain ⟨k, rfl⟩ : ∃ m, k = m + 1 := ⟨k - 1, by omega⟩
      simp only [runF]
      rw [if_neg (by rw [hlen]; omega)]
    by_cases hd : d = 0
    · rw [decide_eq_true hd]
      have hlo : lo = [] := List.length_eq_zero_iff.1 (by omega)
      subst hlo
      obtain ⟨G, cap, hpi⟩ := HP
      exact .inl ⟨g, G, cap, _, _, rfl, hpi, hrun, HF.ok.2.1⟩
    · rw [decide_eq_false hd]
      have hlo : lo ≠ [] := fun e => hd (by rw [a2, e]; rfl)
      have hfn : parseF s.data.toList = none := by rw [hrun]; unfold finF; rw [if_neg hlo]
      exact .inr (.inr ⟨rfl, hfn, _, _, _, HP⟩)

set_option maxRecDepth 100000 in
set_option maxHeartbeats 4000000 in
theorem pread_any (w0 w : World) (P : Nat) (s : ByteArray) (H : PS w0 w P s 0 (0 : Nat) (some ([], g0))) (hs : s.size ≤ 1000000) :
    Calls Tryz.prog 73 #[ptr P] w (RdPost w0 P s) := by
  have hlen : s.data.toList.length = s.size := by rw [← Lib.size_eq]
  have h0 : RdS w0 P s (s.size + 1) false w := ⟨0, 0, some ([], g0), by omega, by omega, by omega, H, fun lo g e => by injection e with e; injection e with e1 e2; subst e1; subst e2; exact ⟨by simp, by decide⟩, fun e => (by cases e), fun lo g e => by injection e with e; injection e with e1 e2; subst e1; subst e2; exact ⟨by unfold parseF; rw [hlen], rfl, fun e => (by cases e)⟩⟩
  have H0 := Lib.hid h0
  have HLen := Lib.hid hlen
  clear H h0 hlen
  go_enter Tryz.func73, Tryz.ntmps73
  go_wp2_with fail
  go_loopg [3] (s.size + 1) (fun k v wr => ∃ f, v = .bool f ∧ Hid (RdS w0 P s k f wr))
  case atStart => exact ⟨false, rfl, H0.out⟩
  case round =>
    obtain ⟨f, rfl, HR⟩ := hrel
    obtain ⟨i, d, st, h1, h2, h3, h4, h5, h6, h7⟩ := HR.out
    obtain ⟨c0, c1, c3⟩ := h4.cells
    have HP0 := Lib.hid h4; have HF := Lib.hid h5; have HN := Lib.hid h6; have HS := Lib.hid h7
    clear h4 h5 h6 h7 HR H0
    rcases Nat.lt_or_ge i s.size with hlt | hge
    · rcases gk with _ | gk
      · omega
      have hii : (i : Int) < s.size := by omega
      go_wp2_with fail
      go_quiet (fail)
      have HP1 := Lib.hid (HP0.out.below (below_drewN _ wr nq))
      generalize wr.drewN nq = w1 at HP1 ⊢
      clear c0 c1 hii HP0
      go_wp2_with fail
      by_cases hA : nx s.data.toList i = 124
      · refine (ptake_yes 124 HP1.out (by omega) hs hA (by omega)).mono ?_
        rintro e w2 ⟨rfl, hq⟩
        have HC := Lib.hid (palt hq HF.out)
        clear hq
        go_wp2_with fail
        refine HC.out.mono ?_
        rintro e w3 ⟨rfl, hq⟩
        have HB := Lib.hid (weigh_br (br_of_step (f := f) (f' := false) (d := d) (d' := d) nextS h2 hlt (j := i + 1) (by omega) (by omega) (by omega) HN.out HS.out HF.out (fun lo g e => ⟨by unfold stepF; rw [if_pos hA]; rfl, (HS.out lo g e).2.1, fun h => (by cases h), by show lo.length ≤ _; omega, sz_next (e ▸ HF.out)⟩) hq) hs)
        clear hq
        go_wp2_with fail
        refine HB.out.mono ?_
        rintro e wz ⟨rfl, hz'⟩
        have HZ := Lib.hid hz'
        clear hz'
        go_wp2
        go_roundg gk
        case rel => exact ⟨false, rfl, HZ.out⟩
        case measure => omega
      · refine (ptake_no 124 HP1.out (by omega) hs hA).mono ?_
        rintro e w2 ⟨rfl, hq⟩
        have HP2 := Lib.hid hq
        clear hq HP1
        go_wp2_with fail
        by_cases hB : nx s.data.toList i = 40
        · refine (ptake_yes 40 HP2.out (by omega) hs hB (by omega)).mono ?_
          rintro e w3 ⟨rfl, hq⟩
          have HC := Lib.hid (pbegin hq HF.out (by omega))
          clear hq
          go_wp2_with fail
          refine HC.out.mono ?_
          rintro e w4 ⟨rfl, hq⟩
          have HB := Lib.hid (weigh_br (br_of_step (f := f) (f' := false) (d := d) (d' := d + 1) openS h2 hlt (j := i + 1) (by omega) (by omega) (by omega) HN.out HS.out HF.out (fun lo g e => ⟨by unfold stepF; rw [if_neg hA, if_pos hB]; rfl, by show d + 1 = (lo ++ [g]).length; rw [(HS.out lo g e).2.1]; simp, fun h => (by cases h), by show (lo ++ [g]).length ≤ _; simp, sz_open (e ▸ HF.out)⟩) hq) hs)
          clear hq
          go_wp2_with fail
          refine HB.out.mono ?_
          rintro e wz ⟨rfl, hz'⟩
          have HZ := Lib.hid hz'
          clear hz'
          go_wp2
          go_roundg gk
          case rel => exact ⟨false, rfl, HZ.out⟩
          case measure => omega
        · refine (ptake_no 40 HP2.out (by omega) hs hB).mono ?_
          rintro e w3 ⟨rfl, hq⟩
          have c3' := hq.cells.2.2
          have HP3 := Lib.hid hq
          clear hq HP2 c3
          by_cases hd : 0 < d
          · have hdi : (0 : Int) < (d : Int) := by omega
            by_cases hC : nx s.data.toList i = 41
            · obtain ⟨d1, rfl⟩ : ∃ d1, d = d1 + 1 := ⟨d - 1, by omega⟩
              have HT := Lib.hid (ptake_yes 41 HP3.out (by omega) hs hC (by omega))
              have hlone : ∀ lo g, st = some (lo, g) → lo ≠ [] := fun lo g e hl => by have := (HS.out lo g e).2.1; rw [hl] at this; simp at this
              have HLO := Lib.hid hlone
              generalize hdd : ((d1 + 1 : Nat) : Int) = dd at c3' hdi
              clear hlone
              go_wp2_with fail
              refine HT.out.mono ?_
              rintro e w4 ⟨rfl, hq⟩
              have HC := Lib.hid (pend hq HF.out (by omega) HLO.out)
              clear hq
              go_wp2_with fail
              refine HC.out.mono ?_
              rintro e w5 ⟨rfl, hq⟩
              have HB := Lib.hid (weigh_br (br_of_step (f := f) (f' := true) (d := d1 + 1) (d' := d1) closeS h2 hlt (j := i + 1) (by omega) (by omega) (by omega) HN.out HS.out HF.out (fun lo g e => ⟨by unfold stepF; rw [if_neg hA, if_neg hB, if_pos ⟨hC, HLO.out lo g e⟩]; rfl, by show d1 = lo.dropLast.length; rw [List.length_dropLast, ← (HS.out lo g e).2.1]; omega, fun _ => by show ((lo.getLast?.getD g0).row ++ [g.whole]) ≠ []; simp, by show lo.dropLast.length ≤ _; rw [List.length_dropLast]; omega, sz_close (e ▸ HF.out)⟩) hq) hs)
              clear hq
              go_wp2_with fail
              refine HB.out.mono ?_
              rintro e wz ⟨rfl, hz'⟩
              have HZ := Lib.hid hz'
              clear hz'
              go_wp2
              go_roundg gk
              case rel => exact ⟨true, rfl, HZ.out⟩
              case measure => omega
            · have HT := Lib.hid (ptake_no 41 HP3.out (by omega) hs hC)
              go_wp2_with fail
              refine HT.out.mono ?_
              rintro e w4 ⟨rfl, hq⟩
              have HP4 := Lib.hid hq
              clear hq HP3 c3'
              by_cases hf : f = true
              · subst hf
                have HNX := Lib.hid (pnext HP4.out (by omega) hs)
                have HI := Lib.hid (fun w' => indexByte_any REP (nx s.data.toList i) w')
                obtain ⟨ib, hib⟩ : ∃ ib, ib = Lib.indexByte REP.data.toList (nx s.data.toList i).toUInt8 := ⟨_, rfl⟩
                have hin : inS REP (nx s.data.toList i) = decide (0 ≤ ib) := by unfold inS; rw [hib]
                rw [← hib] at HI
                obtain ⟨x, hx⟩ : ∃ x, x = nx s.data.toList i := ⟨_, rfl⟩
                rw [← hx] at HNX HI
                have HIN := Lib.hid hin
                clear hib hin hx
                go_wp2_with fail
                refine HNX.out.mono ?_
                rintro e w5 ⟨rfl, hq⟩
                have HP5 := Lib.hid hq
                clear hq
                go_wp2_with fail
                refine (HI.out w5).mono ?_
                rintro e w6 ⟨rfl, rfl⟩
                by_cases hr : 0 ≤ ib
                · have hin : inS REP (nx s.data.toList i) = true := by rw [HIN.out]; exact decide_eq_true hr
                  have HC := Lib.hid (prepeat HP5.out HF.out hlt hs (fun lo g e => (HS.out lo g e).2.2 rfl))
                  have HIN2 := Lib.hid hin
                  clear hin
                  go_wp2_with fail
                  refine HC.out.mono ?_
                  rintro e w7 ⟨rfl, hq⟩
                  have HB := Lib.hid (weigh_br (br_of_step (f := true) (f' := true) (d := d) (d' := d) (repS (nx s.data.toList i)) h2 hlt (j := i + 1) (by omega) (by omega) (by omega) HN.out HS.out HF.out (fun lo g e => ⟨by unfold stepF; rw [if_neg hA, if_neg hB, if_neg (fun hh => hC hh.1), if_pos ⟨rfl, HIN2.out⟩]; rfl, (HS.out lo g e).2.1, fun _ => by show (g.row.dropLast ++ [_]) ≠ []; simp, by show lo.length ≤ _; omega, sz_rep (e ▸ HF.out) _⟩) hq) hs)
                  clear hq
                  go_wp2_with fail
                  refine HB.out.mono ?_
                  rintro e wz ⟨rfl, hz'⟩
                  have HZ := Lib.hid hz'
                  clear hz'
                  go_wp2
                  go_roundg gk
                  case rel => exact ⟨true, rfl, HZ.out⟩
                  case measure => omega
                · have hin : ¬ inS REP (nx s.data.toList i) = true := by rw [HIN.out, decide_eq_false hr]; simp
                  have HIN2 := Lib.hid hin
                  clear hin
                  have HC := Lib.hid (patom HP5.out HF.out (by omega) hs)
                  go_wp2_with fail
                  refine HC.out.mono ?_
                  rintro e w8 hat
                  rcases hat with ⟨t, j, ha, rfl, hq⟩ | ⟨ha, rfl, j, hj, hq⟩
                  · obtain ⟨aj1, aj2, _⟩ := atomF_ok ha (by omega)
                    have HAA := Lib.hid ha
                    clear ha
                    have HB := Lib.hid (weigh_br (br_of_step (f := true) (f' := true) (d := d) (d' := d) (putS (.set t)) h2 hlt (j := j) (by omega) (by omega) (by omega) HN.out HS.out HF.out (fun lo g e => ⟨by unfold stepF; rw [if_neg hA, if_neg hB, if_neg (fun hh => hC hh.1), if_neg (fun hh => HIN2.out hh.2), HAA.out]; rfl, (HS.out lo g e).2.1, fun _ => by show (g.row ++ [_]) ≠ []; simp, by show lo.length ≤ _; omega, sz_put (e ▸ HF.out) _⟩) hq) hs)
                    clear hq
                    go_wp2_with fail
                    refine HB.out.mono ?_
                    rintro e wz ⟨rfl, hz'⟩
                    have HZ := Lib.hid hz'
                    clear hz'
                    go_wp2
                    go_roundg gk
                    case rel => exact ⟨true, rfl, HZ.out⟩
                    case measure => omega
                  · have HE := Lib.hid (none_of_step hlt HN.out (fun lo g e => ⟨(HS.out lo g e).1, by unfold stepF; rw [if_neg hA, if_neg hB, if_neg (fun hh => hC hh.1), if_neg (fun hh => HIN2.out hh.2), ha]; rfl⟩))
                    have HQ := Lib.hid hq
                    clear ha hq
                    go_wp2
                    go_ret
                    exact .inr (.inr ⟨rfl, HE.out, j, d, st, HQ.out⟩)
              · have hff : f = false := by cases f <;> simp_all
                subst hff
                clear hf
                have HC := Lib.hid (patom HP4.out HF.out (by omega) hs)
                go_wp2_with fail
                refine HC.out.mono ?_
                rintro e w8 hat
                rcases hat with ⟨t, j, ha, rfl, hq⟩ | ⟨ha, rfl, j, hj, hq⟩
                · obtain ⟨aj1, aj2, _⟩ := atomF_ok ha (by omega)
                  have HAA := Lib.hid ha
                  clear ha
                  have HB := Lib.hid (weigh_br (br_of_step (f := false) (f' := true) (d := d) (d' := d) (putS (.set t)) h2 hlt (j := j) (by omega) (by omega) (by omega) HN.out HS.out HF.out (fun lo g e => ⟨by unfold stepF; rw [if_neg hA, if_neg hB, if_neg (fun hh => hC hh.1), if_neg (fun hh => (by cases hh.1)), HAA.out]; rfl, (HS.out lo g e).2.1, fun _ => by show (g.row ++ [_]) ≠ []; simp, by show lo.length ≤ _; omega, sz_put (e ▸ HF.out) _⟩) hq) hs)
                  clear hq
                  go_wp2_with fail
                  refine HB.out.mono ?_
                  rintro e wz ⟨rfl, hz'⟩
                  have HZ := Lib.hid hz'
                  clear hz'
                  go_wp2
                  go_roundg gk
                  case rel => exact ⟨true, rfl, HZ.out⟩
                  case measure => omega
                · have HE := Lib.hid (none_of_step hlt HN.out (fun lo g e => ⟨(HS.out lo g e).1, by unfold stepF; rw [if_neg hA, if_neg hB, if_neg (fun hh => hC hh.1), if_neg (fun hh => (by cases hh.1)), ha]; rfl⟩))
                  have HQ := Lib.hid hq
                  clear ha hq
                  go_wp2
                  go_ret
                  exact .inr (.inr ⟨rfl, HE.out, j, d, st, HQ.out⟩)
          · obtain rfl : d = 0 := by omega
            have c3z : w3.cell? ⟨P, 3, none⟩ = some (.int .i64 0) := c3'
            clear c3'
            by_cases hf : f = true
            · subst hf
              have HNX := Lib.hid (pnext HP3.out (by omega) hs)
              have HI := Lib.hid (fun w' => indexByte_any REP (nx s.data.toList i) w')
              obtain ⟨ib, hib⟩ : ∃ ib, ib = Lib.indexByte REP.data.toList (nx s.data.toList i).toUInt8 := ⟨_, rfl⟩
              have hin : inS REP (nx s.data.toList i) = decide (0 ≤ ib) := by unfold inS; rw [hib]
              rw [← hib] at HI
              obtain ⟨x, hx⟩ : ∃ x, x = nx s.data.toList i := ⟨_, rfl⟩
              rw [← hx] at HNX HI
              have HIN := Lib.hid hin
              clear hib hin hx
              go_wp2_with fail
              refine HNX.out.mono ?_
              rintro e w5 ⟨rfl, hq⟩
              have HP5 := Lib.hid hq
              clear hq
              go_wp2_with fail
              refine (HI.out w5).mono ?_
              rintro e w6 ⟨rfl, rfl⟩
              by_cases hr : 0 ≤ ib
              · have hin : inS REP (nx s.data.toList i) = true := by rw [HIN.out]; exact decide_eq_true hr
                have HC := Lib.hid (prepeat HP5.out HF.out hlt hs (fun lo g e => (HS.out lo g e).2.2 rfl))
                have HIN2 := Lib.hid hin
                clear hin
                go_wp2_with fail
                refine HC.out.mono ?_
                rintro e w7 ⟨rfl, hq⟩
                have HB := Lib.hid (weigh_br (br_of_step (f := true) (f' := true) (d := 0) (d' := 0) (repS (nx s.data.toList i)) h2 hlt (j := i + 1) (by omega) (by omega) (by omega) HN.out HS.out HF.out (fun lo g e => ⟨by unfold stepF; rw [if_neg hA, if_neg hB, if_neg (fun hh => by have := (HS.out lo g e).2.1; exact hh.2 (List.length_eq_zero_iff.1 (by omega))), if_pos ⟨rfl, HIN2.out⟩]; rfl, (HS.out lo g e).2.1, fun _ => by show (g.row.dropLast ++ [_]) ≠ []; simp, by show lo.length ≤ _; omega, sz_rep (e ▸ HF.out) _⟩) hq) hs)
                clear hq
                go_wp2_with fail
                refine HB.out.mono ?_
                rintro e wz ⟨rfl, hz'⟩
                have HZ := Lib.hid hz'
                clear hz'
                go_wp2
                go_roundg gk
                case rel => exact ⟨true, rfl, HZ.out⟩
                case measure => omega
              · have hin : ¬ inS REP (nx s.data.toList i) = true := by rw [HIN.out, decide_eq_false hr]; simp
                have HIN2 := Lib.hid hin
                clear hin
                have HC := Lib.hid (patom HP5.out HF.out (by omega) hs)
                go_wp2_with fail
                refine HC.out.mono ?_
                rintro e w8 hat
                rcases hat with ⟨t, j, ha, rfl, hq⟩ | ⟨ha, rfl, j, hj, hq⟩
                · obtain ⟨aj1, aj2, _⟩ := atomF_ok ha (by omega)
                  have HAA := Lib.hid ha
                  clear ha
                  have HB := Lib.hid (weigh_br (br_of_step (f := true) (f' := true) (d := 0) (d' := 0) (putS (.set t)) h2 hlt (j := j) (by omega) (by omega) (by omega) HN.out HS.out HF.out (fun lo g e => ⟨by unfold stepF; rw [if_neg hA, if_neg hB, if_neg (fun hh => by have := (HS.out lo g e).2.1; exact hh.2 (List.length_eq_zero_iff.1 (by omega))), if_neg (fun hh => HIN2.out hh.2), HAA.out]; rfl, (HS.out lo g e).2.1, fun _ => by show (g.row ++ [_]) ≠ []; simp, by show lo.length ≤ _; omega, sz_put (e ▸ HF.out) _⟩) hq) hs)
                  clear hq
                  go_wp2_with fail
                  refine HB.out.mono ?_
                  rintro e wz ⟨rfl, hz'⟩
                  have HZ := Lib.hid hz'
                  clear hz'
                  go_wp2
                  go_roundg gk
                  case rel => exact ⟨true, rfl, HZ.out⟩
                  case measure => omega
                · have HE := Lib.hid (none_of_step hlt HN.out (fun lo g e => ⟨(HS.out lo g e).1, by unfold stepF; rw [if_neg hA, if_neg hB, if_neg (fun hh => by have := (HS.out lo g e).2.1; exact hh.2 (List.length_eq_zero_iff.1 (by omega))), if_neg (fun hh => HIN2.out hh.2), ha]; rfl⟩))
                  have HQ := Lib.hid hq
                  clear ha hq
                  go_wp2
                  go_ret
                  exact .inr (.inr ⟨rfl, HE.out, j, 0, st, HQ.out⟩)
            · have hff : f = false := by cases f <;> simp_all
              subst hff
              clear hf
              have HC := Lib.hid (patom HP3.out HF.out (by omega) hs)
              go_wp2_with fail
              refine HC.out.mono ?_
              rintro e w8 hat
              rcases hat with ⟨t, j, ha, rfl, hq⟩ | ⟨ha, rfl, j, hj, hq⟩
              · obtain ⟨aj1, aj2, _⟩ := atomF_ok ha (by omega)
                have HAA := Lib.hid ha
                clear ha
                have HB := Lib.hid (weigh_br (br_of_step (f := false) (f' := true) (d := 0) (d' := 0) (putS (.set t)) h2 hlt (j := j) (by omega) (by omega) (by omega) HN.out HS.out HF.out (fun lo g e => ⟨by unfold stepF; rw [if_neg hA, if_neg hB, if_neg (fun hh => by have := (HS.out lo g e).2.1; exact hh.2 (List.length_eq_zero_iff.1 (by omega))), if_neg (fun hh => (by cases hh.1)), HAA.out]; rfl, (HS.out lo g e).2.1, fun _ => by show (g.row ++ [_]) ≠ []; simp, by show lo.length ≤ _; omega, sz_put (e ▸ HF.out) _⟩) hq) hs)
                clear hq
                go_wp2_with fail
                refine HB.out.mono ?_
                rintro e wz ⟨rfl, hz'⟩
                have HZ := Lib.hid hz'
                clear hz'
                go_wp2
                go_roundg gk
                case rel => exact ⟨true, rfl, HZ.out⟩
                case measure => omega
              · have HE := Lib.hid (none_of_step hlt HN.out (fun lo g e => ⟨(HS.out lo g e).1, by unfold stepF; rw [if_neg hA, if_neg hB, if_neg (fun hh => by have := (HS.out lo g e).2.1; exact hh.2 (List.length_eq_zero_iff.1 (by omega))), if_neg (fun hh => (by cases hh.1)), ha]; rfl⟩))
                have HQ := Lib.hid hq
                clear ha hq
                go_wp2
                go_ret
                exact .inr (.inr ⟨rfl, HE.out, j, 0, st, HQ.out⟩)
    · obtain rfl : i = s.size := by omega
      have hii : ¬ (s.size : Int) < s.size := by omega
      have hfu : 1 ≤ gk := by omega
      go_wp2_with fail
      go_quiet (fail)
      have HP1 := Lib.hid (HP0.out.below (below_drewN _ wr nq))
      generalize wr.drewN nq = w1 at HP1 ⊢
      have d3 := HP1.out.cells.2.2
      clear c0 c1 c3 hii HP0
      have hout : RdPost w0 P s (.returned (.bool ((d : Int) == 0))) w1 := read_end hfu HLen.out HP1.out HF.out HN.out HS.out
      have HOUT := Lib.hid hout
      clear hout HN HS HF HP1
      go_wp2
      go_ret
      exact HOUT.out
end Go.Proofs.YtejdfpieblkapaaGreatDoor

/- Carried from another seat. -/
namespace Go.Proofs.YtejdfpieblkapaaGreatDoor
open Go.RowKit Go.Shelf


/-- What Parse answers: a node of what is written, or an error. -/
def PaTo (s : ByteArray) (w : World) (e : Ending) (w' : World) : Prop :=
  Below w.heap.size w w' ∧ ((∃ r nb, parseF s.data.toList = some r ∧ r.size ≤ 400 ∧ e = .returned (.tuple #[ptr nb, .int .i64 0, .int .i64 0]) ∧ NdAt w' r nb ∧ NdQ w' (fun k => w.heap.size ≤ k) r nb) ∨ (parseF s.data.toList = none ∧ ∃ (p c : Int), c ≠ 0 ∧ e = .returned (.tuple #[.pointer none, .int .i64 p, .int .i64 c])))
theorem finF_one (g : Grp) : finF [] g = if g.whole.size ≤ 400 then some g.whole else none := by unfold finF; rw [if_pos rfl]

/-- The parser as it begins. -/
theorem ps_start (w : World) (s : ByteArray) (w1 : World) (hb : Below w.heap.size w w1) (h1 : w1.heap[w.heap.size]? = some (.cells #[.slice none 0 0, .slice none 0 0] 168 (0, 0))) (h2 : w1.heap[w.heap.size + 1]? = some (.cells #[.string s, .int .i64 0, .slice (some ⟨w.heap.size, 0, none⟩) 1 1, .int .i64 0, .bool false] 123 (0, 0))) : PS w w1 (w.heap.size + 1) s 0 (0 : Nat) (some ([], g0)) := by
  refine ⟨w.heap.size, 1, fun i => if i = w.heap.size then 2 else if i = w.heap.size + 1 then 1 else if i < w.heap.size then 1 else 0, [.slice none 0 0, .slice none 0 0], ⟨h2, ⟨rfl, .inr ⟨w.heap.size, 1, _, rfl, Nat.zero_le _, h1, Nat.le_refl _, by unfold maxLen; omega, rfl, rfl⟩⟩, rfl, fun c v rs a1 a2 _ => ?_, by simp, by simp, fun i hi => ?_, hb⟩, fun i hi => ?_⟩
  · have hc : c = 0 ∨ c = 1 := by
      have := (List.getElem?_eq_some_iff.1 a1).1
      simp at this; omega
    rcases hc with rfl | rfl
    · have e1 : Value.slice none 0 0 = v := by simpa using a1
      have e2 : ([] : List Rx) = rs := by simpa [flatG, g0] using a2
      subst e1; subst e2
      exact RwAt.nil _ _ _
    · have e1 : Value.slice none 0 0 = v := by simpa using a1
      have e2 : ([] : List Rx) = rs := by simpa [flatG, g0] using a2
      subst e1; subst e2
      exact RwAt.nil _ _ _
  · refine ⟨?_, by omega⟩
    show (if i = w.heap.size then 2 else if i = w.heap.size + 1 then 1 else if i < w.heap.size then 1 else 0) = 1
    rw [if_neg (by omega), if_neg (by omega), if_pos hi]
  · have := lt_of_heap h2
    simp only []
    rw [if_neg (by omega), if_neg (by omega), if_neg (by omega)]

theorem run_mk52 (w : World) : (Instr.makeSlice 121 (.int .i64 1) (.int .i64 1)).run Tryz.prog w = .ok (.slice (some ⟨w.heap.size, 0, none⟩) 1 1) (w.alloc (.cells #[.slice none 0 0, .slice none 0 0] 168)) := by
  obtain ⟨i, hi, hz, hsz, hby⟩ := info_parts Tryz.info168
  have h := run_makeSlice (P := Tryz.prog) w 121 168 i _ Tryz.underlying121 hi hz .i64 .i64 1 1 (by omega) (by omega) (by rw [hsz]; decide) (by rw [hby]; decide) (by omega)
  have e : madeCells (Value.agg #[.slice none 0 0, .slice none 0 0]).cells (Int.toNat 1 * 2) = #[.slice none 0 0, .slice none 0 0] := by kernel_rfl
  rw [h, hsz, e]; rfl
set_option maxRecDepth 100000 in
set_option maxHeartbeats 4000000 in
theorem parse_any (s : ByteArray) (w : World) (hs : s.size ≤ 1000000) : Calls Tryz.prog 45 #[.string s] w (PaTo s w) := by
  have hmk := run_mk52 w
  have hb2 : Below w.heap.size w ((w.alloc (.cells #[.slice none 0 0, .slice none 0 0] 168)).alloc (.cells #[.string s, .int .i64 0, .slice (some ⟨w.heap.size, 0, none⟩) 1 1, .int .i64 0, .bool false] 123)) := ((Below.refl _ w).alloc (Nat.le_refl _) _).alloc (by simp) _
  have hps := ps_start w s _ hb2 ((Below.heap_alloc _ _ _ (by simp)).trans (heap_alloc_new w _)) (heap_alloc2_new w _ _)
  have HR := Lib.hid (pread_any w _ (w.heap.size + 1) s hps hs)
  clear hb2 hps
  go_enter Tryz.func45, Tryz.ntmps45
  go_wp2_with fail
  refine HR.out.mono ?_
  rintro e w1 hpost
  rcases hpost with ⟨g, G, cap, i, d, rfl, hpi, hfin, hok⟩ | ⟨i, d, rfl, hp, hnone⟩ | ⟨rfl, hnone, i, d, st, hp⟩
  · obtain ⟨_, _, _, _, c4, _⟩ := ps_cells hpi.ps
    have HL := Lib.hid (last_ps w1 (w.heap.size + 1) G [g].length 0 cap s i d hpi.ps rfl (by omega))
    have HPI := Lib.hid hpi; have HOK := Lib.hid hok; have HFI := Lib.hid hfin
    clear hpi hok hfin
    go_wp2_with fail
    refine HL.out.mono ?_
    rintro e w2 ⟨rfl, hb2⟩
    have HW := Lib.hid (whole_any w w2 (w.heap.size + 1) G cap s i d [] g (HPI.out.below hb2) HOK.out)
    clear hb2
    go_wp2_with fail
    refine HW.out.mono ?_
    rintro e w3 ⟨nb, rfl, ρ, vs, X1, X2, X3⟩
    obtain ⟨sz, _, hbl⟩ := nd_size X3.nd
    have HB := Lib.hid X1.bel; have HN := Lib.hid X3.nd
    have HNQ := Lib.hid (X3.mono (Q' := fun k => w.heap.size ≤ k) (fun k _ hk => X1.lo (.inl (by rw [hk]; omega))))
    have hfin := HFI.out
    rw [finF_one] at hfin
    obtain ⟨z, hz⟩ : ∃ z, z = g.whole.size := ⟨_, rfl⟩
    rw [← hz] at sz hfin
    clear X1 X2 X3
    by_cases h4 : z ≤ 400
    · have h4i : ¬ (400 : Int) < (z : Int) := by omega
      rw [if_pos h4] at hfin
      have HFn := Lib.hid hfin
      have HZ := Lib.hid (show g.whole.size ≤ 400 by omega)
      clear hfin hz
      go_wp2_with fail
      refine bodyPost_ret (results_tmp3 rfl _ _ _) rfl ?_
      exact ⟨HB.out, .inl ⟨_, nb, HFn.out, HZ.out, rfl, HN.out, HNQ.out⟩⟩
    · have h4i : (400 : Int) < (z : Int) := by omega
      rw [if_neg h4] at hfin
      have HFn := Lib.hid hfin
      clear hfin hz
      go_wp2_with fail
      refine bodyPost_ret (results_tmp3 rfl _ _ _) rfl ?_
      exact ⟨HB.out, .inr ⟨HFn.out, 0, 3, by omega, rfl⟩⟩
  · obtain ⟨_, _, _, _, c4, _⟩ := ps_cells hp.1
    have HB := Lib.hid hp.bel; have HN := Lib.hid hnone
    clear hp hnone
    go_wp2_with fail
    refine bodyPost_ret (results_tmp3 rfl _ _ _) rfl ?_
    exact ⟨HB.out, .inr ⟨HN.out, 0, 3, by omega, rfl⟩⟩
  · obtain ⟨_, c1, _⟩ := hp.cells
    have HB := Lib.hid hp.bel; have HN := Lib.hid hnone
    clear hp hnone
    go_wp2_with fail
    go_quiet (fail)
    go_wp2_with fail
    refine bodyPost_ret (results_tmp3 rfl _ _ _) rfl ?_
    exact ⟨HB.out.trans (below_drewN _ _ _), .inr ⟨HN.out, i, 4, by omega, rfl⟩⟩
end Go.Proofs.YtejdfpieblkapaaGreatDoor

/- Carried from another seat. -/
namespace Go.Proofs.YtejdfpieblkapaaGreatDoor
open Go.RowKit Go.Shelf


/-- What is left of an expression behind a byte. -/
def Rx.dv (c : UInt8) : Rx → Rx
  | .set s => if s.has c = true then .empty else Rx.none'
  | .empty => Rx.none'
  | .cat a b => if a.nul = true then .or (.cat (a.dv c) b) (b.dv c) else .cat (a.dv c) b
  | .or a b => .or (a.dv c) (b.dv c)
  | .star a => .cat (a.dv c) (.star a)
theorem none_L (u : List UInt8) : ¬ Rx.none'.L u := by
  rintro ⟨c, _, hc⟩
  have h : Ws.hasN ⟨0, 0, 0, 0⟩ c.toNat = true := hc
  unfold Ws.hasN Ws.word at h
  split at h <;> simp at h
theorem Rx.nul_iff : ∀ r : Rx, r.nul = true ↔ r.L []
  | .set s => ⟨fun h => by simp [Rx.nul] at h, fun ⟨c, h, _⟩ => by simp at h⟩
  | .empty => ⟨fun _ => rfl, fun _ => rfl⟩
  | .cat a b => by
    show (a.nul && b.nul) = true ↔ ∃ x y, [] = x ++ y ∧ a.L x ∧ b.L y
    rw [Bool.and_eq_true, a.nul_iff, b.nul_iff]
    refine ⟨fun h => ⟨[], [], rfl, h.1, h.2⟩, fun ⟨x, y, h, h1, h2⟩ => ?_⟩
    have h' := List.append_eq_nil_iff.1 h.symm
    rw [h'.1] at h1; rw [h'.2] at h2
    exact ⟨h1, h2⟩
  | .or a b => by
    show (a.nul || b.nul) = true ↔ a.L [] ∨ b.L []
    rw [Bool.or_eq_true, a.nul_iff, b.nul_iff]
  | .star a => ⟨fun _ => Many.nil, fun _ => rfl⟩
theorem many_cons {P : List UInt8 → Prop} {c : UInt8} {u : List UInt8} : Many P (c :: u) ↔ ∃ x y, u = x ++ y ∧ P (c :: x) ∧ Many P y := by
  constructor
  · intro h
    generalize hv : c :: u = v at h
    induction h with
    | nil => cases hv
    | cons x y hx hy ih =>
      cases x with
      | nil => exact ih hv
      | cons d x =>
        injection hv with e1 e2
        subst e1
        exact ⟨x, y, e2, hx, hy⟩
  · rintro ⟨x, y, rfl, h1, h2⟩
    exact Many.cons (c :: x) y h1 h2
theorem Rx.dv_iff (c : UInt8) : ∀ (r : Rx) (u : List UInt8), (r.dv c).L u ↔ r.L (c :: u)
  | .set s, u => by
    show (if s.has c = true then Rx.empty else Rx.none').L u ↔ _
    split
    · rename_i h
      refine ⟨fun (hu : u = []) => ⟨c, by rw [hu], h⟩, fun ⟨d, hd, _⟩ => ?_⟩
      injection hd
    · rename_i h
      refine ⟨fun hu => absurd hu (none_L u), fun ⟨d, hd, hs⟩ => ?_⟩
      injection hd with e1 e2
      rw [← e1] at hs
      exact absurd hs h
  | .empty, u => ⟨fun hu => absurd hu (none_L u), fun h => by cases h⟩
  | .cat a b, u => by
    have key : (∃ x y, u = x ++ y ∧ (a.dv c).L x ∧ b.L y) ↔ ∃ x y, u = x ++ y ∧ a.L (c :: x) ∧ b.L y := by simp only [a.dv_iff c]
    have h2 : (Rx.cat a b).L (c :: u) ↔ (a.L [] ∧ b.L (c :: u)) ∨ ∃ x y, u = x ++ y ∧ a.L (c :: x) ∧ b.L y := by
      constructor
      · rintro ⟨x, y, h, h1, h2⟩
        cases x with
        | nil => exact .inl ⟨h1, by rw [h]; exact h2⟩
        | cons d x =>
          injection h with e1 e2
          subst e1
          exact .inr ⟨x, y, e2, h1, h2⟩
      · rintro (⟨h1, h2⟩ | ⟨x, y, rfl, h1, h2⟩)
        · exact ⟨[], _, rfl, h1, h2⟩
        · exact ⟨c :: x, y, rfl, h1, h2⟩
    rw [h2]
    show (if a.nul = true then Rx.or (.cat (a.dv c) b) (b.dv c) else .cat (a.dv c) b).L u ↔ _
    split
    · rename_i h
      show ((∃ x y, u = x ++ y ∧ (a.dv c).L x ∧ b.L y) ∨ (b.dv c).L u) ↔ _
      rw [key, b.dv_iff c]
      have := a.nul_iff.1 h
      constructor
      · rintro (h | h)
        · exact .inr h
        · exact .inl ⟨this, h⟩
      · rintro (h | h)
        · exact .inr h.2
        · exact .inl h
    · rename_i h
      show (∃ x y, u = x ++ y ∧ (a.dv c).L x ∧ b.L y) ↔ _
      rw [key]
      refine ⟨.inr, fun h' => h'.elim (fun h' => absurd (a.nul_iff.2 h'.1) h) id⟩
  | .or a b, u => by
    show (a.dv c).L u ∨ (b.dv c).L u ↔ a.L (c :: u) ∨ b.L (c :: u)
    rw [a.dv_iff c, b.dv_iff c]
  | .star a, u => by
    show (∃ x y, u = x ++ y ∧ (a.dv c).L x ∧ Many a.L y) ↔ Many a.L (c :: u)
    rw [many_cons]
    simp only [a.dv_iff c]
/-- Whether an expression means a text. -/
def Rx.mt : Rx → List UInt8 → Bool
  | r, [] => r.nul
  | r, c :: u => (r.dv c).mt u
theorem Rx.mt_iff (r : Rx) (u : List UInt8) : r.mt u = true ↔ r.L u := by
  induction u generalizing r with
  | nil => exact r.nul_iff
  | cons c u ih =>
    show (r.dv c).mt u = true ↔ _
    rw [ih, Rx.dv_iff]
theorem mt_eq {r : Rx} {u : List UInt8} {b : Bool} (h : b = true ↔ r.L u) : b = r.mt u := by
  rw [Bool.eq_iff_iff, h, Rx.mt_iff]
end Go.Proofs.YtejdfpieblkapaaGreatDoor
