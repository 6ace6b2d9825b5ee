/- The parser's calls: atom. -/
import Derived.Test.YtejdfpieblkapaaM39
namespace Go.Proofs.Ytejdfpieblkapaa
open Go.RowKit Go.Shelf

section
variable {w0 w : World} {P : Nat} {s : ByteArray} {i : Nat} {d : Int} {st : Option (List Grp × Grp)}
theorem PS.open' (H : PS w0 w P s i d st) : ∃ ov l, PsB w P s i ov d l ∧ ∀ (w' : World) (i' : Nat) (d' : Int), Kb (fun j => j = P) w w' → PsB w' P s i' ov d' l → PS w0 w' P s i' d' st := by
  cases st with
  | none =>
    obtain ⟨h1, h2, h3⟩ := H
    exact ⟨_, _, h1, fun w' i' d' hk hp => ⟨hp, h2, h3.trans (hk.below h3.size (fun i he => by rw [show i = P from he]; exact h2))⟩⟩
  | some x =>
    obtain ⟨lo, g⟩ := x
    obtain ⟨G, cap, h⟩ := H
    exact ⟨_, _, h.ps, fun w' i' d' hk hp => ⟨G, cap, h.psk hk hp⟩⟩
theorem PS.below (H : PS w0 w P s i d st) {w' : World} (hb : Below w.heap.size w w') : PS w0 w' P s i d st := by
  obtain ⟨ov, l, h1, h2⟩ := H.open'
  exact h2 w' i d (Kb.of_below _ hb) (h1.below hb)
def putS (r : Rx) (x : List Grp × Grp) : List Grp × Grp := (x.1, x.2.put r)
set_option maxHeartbeats 1000000 in
theorem put_none (w : World) (P nb : Nat) (s : ByteArray) (i : Nat) (ov : Value) (d : Int) (H : PsB w P s i ov d true) :
    Calls Try.prog 55 #[ptr P, ptr nb] w fun e w' => e = .returned (.tuple #[]) ∧ w' = w := by
  obtain ⟨_, _, _, _, c4, _⟩ := ps_cells H
  clear H
  go_enter Try.func55, Try.ntmps55
  go_wp2
  go_end0
  exact ⟨rfl, rfl⟩
/-- A set is made, and put behind. -/
theorem putset (t : Ws) (H : PS w0 w P s i d st) (hb : ∀ lo g, st = some (lo, g) → lo.length ≤ 100 ∧ g.row.length ≤ 1000) :
    Calls Try.prog 17 #[wsV t] w fun e w1 => ∃ nb, e = .returned (ptr nb) ∧ Calls Try.prog 55 #[ptr P, ptr nb] w1 fun e w2 => e = .returned (.tuple #[]) ∧ PS w0 w2 P s i d (st.map (putS (.set t))) := by
  cases st with
  | none =>
    refine (set_q (fun _ => True) t w).mono ?_
    rintro e w1 ⟨nb, rfl, y1, y2⟩
    have H1 := H.below y2
    refine ⟨nb, rfl, (put_none w1 P nb s i _ d H1.1).mono ?_⟩
    rintro e w2 ⟨rfl, rfl⟩
    exact ⟨rfl, H1⟩
  | some x =>
    obtain ⟨lo, g⟩ := x
    obtain ⟨G, cap, ρ, vs, X, hf⟩ := H
    obtain ⟨b1, b2⟩ := hb lo g rfl
    refine (set_q (fun i => ρ i = 0) t w).mono ?_
    rintro e w1 ⟨nb, rfl, y1, y2⟩
    refine ⟨nb, rfl, (put_any w0 w1 P G cap s i d lo g (.set t) nb ⟨ρ, vs, X.below y2, fun i hi => hf i (Nat.le_trans y2.size hi), ndq_fresh hf y1⟩ b1 b2).mono ?_⟩
    rintro e w2 ⟨rfl, h⟩
    exact ⟨rfl, G, cap, h⟩
end
/-- What atom answers. -/
def AtTo (w0 : World) (P : Nat) (s : ByteArray) (i : Nat) (d : Int) (st : Option (List Grp × Grp)) (e : Ending) (w' : World) : Prop :=
  (∃ t j, atomF s.data.toList i = some (t, j) ∧ e = .returned (.bool true) ∧ PS w0 w' P s j d (st.map (putS (.set t)))) ∨ (atomF s.data.toList i = none ∧ e = .returned (.bool false) ∧ ∃ j, j ≤ s.size ∧ PS w0 w' P s j d st)

set_option maxRecDepth 100000 in
set_option maxHeartbeats 4000000 in
theorem atom_any (w0 w : World) (P : Nat) (s : ByteArray) (i : Nat) (d : Int) (st : Option (List Grp × Grp)) (H : PS w0 w P s i d st) (hb : ∀ lo g, st = some (lo, g) → lo.length ≤ 100 ∧ g.row.length ≤ 1000) (hi : i ≤ s.size) (hs : s.size ≤ 1000000) :
    Calls Try.prog 44 #[ptr P] w (AtTo w0 P s i d st) := by
  obtain ⟨ov, l, hp, hback⟩ := H.open'
  have hPl := lt_of_heap hp
  have hb0 : Below w.heap.size w (w.alloc (.cells #[.int .u64 0, .int .u64 0, .int .u64 0, .int .u64 0] 41)) := (Below.refl _ w).alloc (Nat.le_refl _) _
  have hA0 := alloc_ws w
  have hz0 : (w.alloc (.cells #[.int .u64 0, .int .u64 0, .int .u64 0, .int .u64 0] 41)).heap.size = w.heap.size + 1 := by simp
  have hp0 := hp.below hb0
  -- behind the reading: a set is put
  have hput : ∀ (w1 : World) (t : Ws) (j : Nat), Kb (fun j => j = P) w w1 → PsB w1 P s j ov d l → Calls Try.prog 17 #[wsV t] w1 fun e w1 => ∃ nb, e = .returned (ptr nb) ∧ Calls Try.prog 55 #[ptr P, ptr nb] w1 fun e w2 => e = .returned (.tuple #[]) ∧ PS w0 w2 P s j d (st.map (putS (.set t))) := fun w1 t j hk hp => putset t (hback w1 j d hk hp) hb
  have HPUT := Lib.hid hput; have HBACK := Lib.hid hback
  have HK0 := Lib.hid (Kb.of_below (fun j => j = P) hb0)
  have hat : atomF s.data.toList i = if nx s.data.toList i = 46 then some ((btw 10 1).inv 4, i + 1) else if nx s.data.toList i = 91 then classF s.data.toList (i + 1) else (letF OUT s.data.toList i).map fun x => (btw x.1 1, x.2) := rfl
  have HAT := Lib.hid hat
  clear hput hback H hb hat
  obtain ⟨w1, hw1⟩ : ∃ w1, w1 = w.alloc (.cells #[.int .u64 0, .int .u64 0, .int .u64 0, .int .u64 0] 41) := ⟨_, rfl⟩
  rw [← hw1] at hA0 hz0 hp0 HK0
  have HA0 := Lib.hid hA0
  have HW1 := Lib.hid hw1
  clear hp hb0 hA0
  by_cases h46 : nx s.data.toList i = 46
  · have hlt := nx_in h46 (by omega)
    have HT := Lib.hid (take_yes w1 P 46 s i ov d l hp0 hi hs h46 (by omega))
    rw [hw1] at HT
    have HATe := Lib.hid (show atomF s.data.toList i = some ((btw 10 1).inv 4, i + 1) by rw [HAT.out, if_pos h46])
    clear hp0 hw1
    go_enter Try.func44, Try.ntmps44
    go_wp2_with fail
    refine HT.out.mono ?_
    rintro e w2 ⟨rfl, h1, h2⟩
    rw [← HW1.out] at h2
    have HK2 := Lib.hid (HK0.out.trans h2 (fun _ _ h => h))
    have HP2 := Lib.hid h1
    have HA2 := Lib.hid ((h2.block _ (by omega) (by omega)).trans HA0.out)
    have hz2 := h2.size
    clear h1 h2
    go_wp2_with fail
    refine (between_any 10 10 w2 (by omega) (by omega)).mono ?_
    rintro e w3 ⟨rfl, h3⟩
    have HO := Lib.hid (others_any (btw 10 1) w3 (btw_ok _ _))
    have HB3 := Lib.hid h3
    clear h3
    generalize (btw 10 1).inv 4 = t at HO HATe
    generalize btw 10 1 = t1 at HO ⊢
    go_wp2_with fail
    refine HO.out.mono ?_
    rintro e w4 ⟨rfl, h4⟩
    have hb4 := below_tr HB3.out h4 HB3.out.size
    have hA4 := (hb4.block _ (by omega)).trans HA2.out
    obtain ⟨z0, z1, z2, z3, f0, f1, f2, f3⟩ := ws_cells hA4
    have hk5 := set4_kb w4 w.heap.size t
    have hKK := (HK2.out.trans (Kb.of_below (fun j => j = P) hb4) (fun _ _ h => h)).trans hk5 (fun i hi h => by have h' : i = w.heap.size := h; omega)
    have hPP : PsB _ P s (i + 1) ov d l := (hk5.block P (Nat.lt_of_lt_of_le (lt_of_heap HP2.out) hb4.size) (by omega)).trans (HP2.out.below hb4)
    have HS := Lib.hid (HPUT.out _ t (i + 1) hKK hPP)
    clear h4 hb4 hA4 hk5 hKK hPP
    go_wp2_with fail
    refine HS.out.mono ?_
    rintro e w5 ⟨nb, rfl, h5⟩
    have H5 := Lib.hid h5
    clear h5
    go_wp2_with fail
    refine H5.out.mono ?_
    rintro e w6 ⟨rfl, h6⟩
    have H6 := Lib.hid h6
    clear h6
    go_wp2
    go_ret
    exact .inl ⟨t, i + 1, HATe.out, rfl, H6.out⟩
  · have HTn := Lib.hid (take_no w1 P 46 s i ov d l hp0 hi hs h46)
    rw [hw1] at HTn
    by_cases h91 : nx s.data.toList i = 91
    · have hlt := nx_in h91 (by omega)
      have HATe := Lib.hid (show atomF s.data.toList i = classF s.data.toList (i + 1) by rw [HAT.out, if_neg h46, if_pos h91])
      have HT := Lib.hid (fun (w' : World) h => take_yes w' P 91 s i ov d l h hi hs h91 (by omega))
      have HCL := Lib.hid (fun (w' : World) h => class_any w' P s (i + 1) ov d l h (by omega) hs)
      clear hp0 hw1
      go_enter Try.func44, Try.ntmps44
      go_wp2_with fail
      refine HTn.out.mono ?_
      rintro e w1' ⟨rfl, h1, h1b⟩
      rw [← HW1.out] at h1b
      have HK1 := Lib.hid (HK0.out.trans (Kb.of_below (fun j => j = P) h1b) (fun _ _ h => h))
      have HA1 := Lib.hid ((h1b.block _ (by omega)).trans HA0.out)
      have hz1 := h1b.size
      have HT1 := Lib.hid (HT.out w1' h1)
      clear h1 h1b
      go_wp2_with fail
      refine HT1.out.mono ?_
      rintro e w2 ⟨rfl, h1, h2⟩
      have HK2 := Lib.hid (HK1.out.trans h2 (fun _ _ h => h))
      have HA2 := Lib.hid ((h2.block _ (by omega) (by omega)).trans HA1.out)
      have hz2 := h2.size
      have HC2 := Lib.hid (HCL.out w2 h1)
      clear h1 h2
      go_wp2_with fail
      refine HC2.out.mono ?_
      rintro e w3 ⟨q1, q2⟩
      have hz3 := q1.size
      have hK3 := HK2.out.trans q1 (fun _ _ h => h)
      have hA3 := (q1.block _ (by omega) (by omega)).trans HA2.out
      obtain ⟨z0, z1, z2, z3, f0, f1, f2, f3⟩ := ws_cells hA3
      rcases q2 with ⟨t, j, hr, rfl, hpp⟩ | ⟨hr, t, rfl, j, hj, hpp⟩
      · have hk5 := set4_kb w3 w.heap.size t
        have hKK := hK3.trans hk5 (fun i hi h => by have h' : i = w.heap.size := h; omega)
        have hPP : PsB _ P s j ov d l := (hk5.block P (lt_of_heap hpp) (by omega)).trans hpp
        have HS := Lib.hid (HPUT.out _ t j hKK hPP)
        have HR := Lib.hid hr
        clear q1 hK3 hA3 hr hpp hk5 hKK hPP
        go_wp2_with fail
        refine HS.out.mono ?_
        rintro e w5 ⟨nb, rfl, h5⟩
        have H5 := Lib.hid h5
        clear h5
        go_wp2_with fail
        refine H5.out.mono ?_
        rintro e w6 ⟨rfl, h6⟩
        have H6 := Lib.hid h6
        clear h6
        go_wp2
        go_ret
        exact .inl ⟨t, j, by rw [HATe.out, HR.out], rfl, H6.out⟩
      · have hk5 := set4_kb w3 w.heap.size t
        have hKK := hK3.trans hk5 (fun i hi h => by have h' : i = w.heap.size := h; omega)
        have hPP : PsB _ P s j ov d l := (hk5.block P (lt_of_heap hpp) (by omega)).trans hpp
        have HS := Lib.hid (HBACK.out _ j d hKK hPP)
        have HR := Lib.hid hr
        clear q1 hK3 hA3 hr hpp hk5 hKK hPP
        go_wp2
        go_ret
        exact .inr ⟨by rw [HATe.out, HR.out], rfl, j, hj, HS.out⟩
    · have HATe := Lib.hid (show atomF s.data.toList i = (letF OUT s.data.toList i).map fun x => (btw x.1 1, x.2) by rw [HAT.out, if_neg h46, if_neg h91])
      have HT := Lib.hid (fun (w' : World) h => take_no w' P 91 s i ov d l h hi hs h91)
      have HCL := Lib.hid (fun (w' : World) h => letter_any w' P OUT s i ov d l h hi hs out0)
      have hlf := fun b j h => letF_ok (sp := OUT) (s := s) (i := i) (b := b) (j := j) h hi out0
      have HLF := Lib.hid hlf
      clear hp0 hw1 hlf
      go_enter Try.func44, Try.ntmps44
      go_wp2_with fail
      refine HTn.out.mono ?_
      rintro e w1' ⟨rfl, h1, h1b⟩
      rw [← HW1.out] at h1b
      have HK1 := Lib.hid (HK0.out.trans (Kb.of_below (fun j => j = P) h1b) (fun _ _ h => h))
      have HA1 := Lib.hid ((h1b.block _ (by omega)).trans HA0.out)
      have hz1 := h1b.size
      have HT1 := Lib.hid (HT.out w1' h1)
      clear h1 h1b
      go_wp2_with fail
      refine HT1.out.mono ?_
      rintro e w2 ⟨rfl, h1, h2⟩
      have HK2 := Lib.hid (HK1.out.trans (Kb.of_below (fun j => j = P) h2) (fun _ _ h => h))
      have HA2 := Lib.hid ((h2.block _ (by omega)).trans HA1.out)
      have hz2 := h2.size
      have HC2 := Lib.hid (HCL.out w2 h1)
      clear h1 h2
      go_wp2_with fail
      refine HC2.out.mono ?_
      rintro e w3 ⟨q1, q2⟩
      have hz3 := q1.size
      have HK3 := Lib.hid (HK2.out.trans q1 (fun _ _ h => h))
      have HA3 := Lib.hid ((q1.block _ (by omega) (by omega)).trans HA2.out)
      rcases q2 with ⟨t, j, hr, rfl, hpp⟩ | ⟨hr, rfl, j, hj, hpp⟩
      · have htl := (HLF.out t j hr).1
        have HBT := Lib.hid (between_any t t w3 htl htl)
        rw [show t + 1 - t = 1 by omega] at HBT
        have HR := Lib.hid hr; have HPP := Lib.hid hpp
        clear q1 hr hpp htl
        go_wp2_with fail
        refine HBT.out.mono ?_
        rintro e w4 ⟨rfl, h4⟩
        have hA4 := (h4.block _ (by omega)).trans HA3.out
        obtain ⟨z0, z1, z2, z3, f0, f1, f2, f3⟩ := ws_cells hA4
        have hk5 := set4_kb w4 w.heap.size (btw t 1)
        have hKK := (HK3.out.trans (Kb.of_below (fun j => j = P) h4) (fun _ _ h => h)).trans hk5 (fun i hi h => by have h' : i = w.heap.size := h; omega)
        have hPP : PsB _ P s j ov d l := (hk5.block P (Nat.lt_of_lt_of_le (lt_of_heap HPP.out) h4.size) (by omega)).trans (HPP.out.below h4)
        have HS := Lib.hid (HPUT.out _ (btw t 1) j hKK hPP)
        have hfin : atomF s.data.toList i = some (btw t 1, j) := by rw [HATe.out, HR.out]; rfl
        have HFI := Lib.hid hfin
        generalize btw t 1 = u at HS HFI z0 z1 z2 z3 f0 f1 f2 f3 ⊢
        clear h4 hA4 hk5 hKK hPP hfin
        go_wp2_with fail
        refine HS.out.mono ?_
        rintro e w5 ⟨nb, rfl, h5⟩
        have H5 := Lib.hid h5
        clear h5
        go_wp2_with fail
        refine H5.out.mono ?_
        rintro e w6 ⟨rfl, h6⟩
        have H6 := Lib.hid h6
        clear h6
        go_wp2
        go_ret
        exact .inl ⟨u, j, HFI.out, rfl, H6.out⟩
      · have HBT := Lib.hid (between_any 0 0 w3 (by omega) (by omega))
        rw [show 0 + 1 - 0 = 1 by omega] at HBT
        have HR := Lib.hid hr; have HPP := Lib.hid hpp
        clear q1 hr hpp
        go_wp2_with fail
        refine HBT.out.mono ?_
        rintro e w4 ⟨rfl, h4⟩
        have hA4 := (h4.block _ (by omega)).trans HA3.out
        obtain ⟨z0, z1, z2, z3, f0, f1, f2, f3⟩ := ws_cells hA4
        have hk5 := set4_kb w4 w.heap.size (btw 0 1)
        have hKK := (HK3.out.trans (Kb.of_below (fun j => j = P) h4) (fun _ _ h => h)).trans hk5 (fun i hi h => by have h' : i = w.heap.size := h; omega)
        have hPP : PsB _ P s j ov d l := (hk5.block P (Nat.lt_of_lt_of_le (lt_of_heap HPP.out) h4.size) (by omega)).trans (HPP.out.below h4)
        have HS := Lib.hid (HBACK.out _ j d hKK hPP)
        have hfin : atomF s.data.toList i = none := by rw [HATe.out, HR.out]; rfl
        have HFI := Lib.hid hfin
        generalize btw 0 1 = u at HS ⊢
        clear h4 hA4 hk5 hKK hPP hfin
        go_wp2
        go_ret
        exact .inr ⟨HFI.out, rfl, j, hj, HS.out⟩
end Go.Proofs.Ytejdfpieblkapaa
