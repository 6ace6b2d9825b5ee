/- What letters reads: a letter of a class, or a range. -/
import Derived.Test.YtejdfpieblkapaaM24
import Derived.Laws.ResultCell
namespace Go.Proofs.Ytejdfpieblkapaa
open Go.RowKit Go.Shelf

theorem results_ws {fn : Func} {p u : Tmp} (h : fn.results = #[.cell p 41, .tmp u]) (tmps : Array Value) (w : World) (g : Nat) (s : Ws) (fr : Nat × Nat) (hp : tmps.getD p undef = .pointer (some ⟨g, 0, none⟩)) (hg : w.heap[g]? = some (.cells s.cells 41 fr)) :
    (results fn tmps).run Try.prog w = .ok (.tuple #[wsV s, tmps.getD u undef]) w := by
  rw [results_cell_tmp h, hp]
  simp [asAddr, run_loadVar_row w g 41 41 s.cells fr _ hg Try.underlying41 rfl (by kernel_rfl), Result.andThen]
  rfl

theorem hexF_ok {s : ByteArray} {i b j : Nat} (h : hexF s.data.toList i = some (b, j)) (hi : i ≤ s.size) : b < 256 ∧ i < j ∧ j ≤ s.size := by
  unfold hexF at h
  obtain ⟨n, hn, hh⟩ := Option.map_eq_some_iff.1 h
  injection hh with h1 h2
  have := hexP_lt _ _ _ _ hn
  have := hexP_in hn hi
  simp at *
  omega
theorem escF_ok {sp s : ByteArray} {i b j : Nat} (h : escF sp s.data.toList i = some (b, j)) (_hi : i ≤ s.size) (hsp : inS sp 0 = false) : b < 256 ∧ i < j ∧ j ≤ s.size := by
  unfold escF at h
  have hl := nx_lt s.data.toList i
  split at h
  · rename_i hx
    have := nx_in hx (by omega)
    have := hexF_ok h (by omega)
    omega
  · split at h
    · rename_i hx; have := nx_in hx (by omega); injection h with h; injection h with h1 h2; omega
    · split at h
      · rename_i hx; have := nx_in hx (by omega); injection h with h; injection h with h1 h2; omega
      · split at h
        · rename_i hx; have := nx_in hx (by omega); injection h with h; injection h with h1 h2; omega
        · split at h
          · rename_i hx; have := inS_in hx hsp; injection h with h; injection h with h1 h2; omega
          · cases h
theorem letF_ok {sp s : ByteArray} {i b j : Nat} (h : letF sp s.data.toList i = some (b, j)) (_hi : i ≤ s.size) (hsp : inS sp 0 = false) : b < 256 ∧ i < j ∧ j ≤ s.size := by
  unfold letF at h
  have hl := nx_lt s.data.toList i
  split at h
  · rename_i hx
    have := nx_in hx (by omega)
    have := escF_ok h (by omega) hsp
    omega
  · split at h
    · cases h
    · rename_i hx
      have := nx_in (s := s) (i := i) rfl (by omega)
      injection h with h; injection h with h1 h2
      omega

def INS : ByteArray := ⟨#[93, 94, 45, 92]⟩
theorem ins0 : inS INS 0 = false := by decide
/-- A letter of a class, or a range. -/
def lettersF (L : List UInt8) (i : Nat) : Option (Ws × Nat) := match letF INS L i with
  | none => none
  | some (f, j) => if nx L j = 45 then (match letF INS L (j + 1) with
      | none => none
      | some (g, k) => if g < f then none else some (btw f (g + 1 - f), k)) else some (btw f 1, j)
/-- What letters and class answer. -/
def WsTo (P : Nat) (s : ByteArray) (ov : Value) (d : Int) (l : Bool) (r : Option (Ws × Nat)) (w : World) (e : Ending) (w' : World) : Prop :=
  Kb (fun j => j = P) w w' ∧ ((∃ b j, r = some (b, j) ∧ e = .returned (.tuple #[wsV b, .bool true]) ∧ PsB w' P s j ov d l) ∨ (r = none ∧ ∃ b, e = .returned (.tuple #[wsV b, .bool false]) ∧ ∃ j, j ≤ s.size ∧ PsB w' P s j ov d l))

/-- The world with an array's four words set. -/
theorem set4 {w : World} {g : Nat} {s0 s : Ws} (h : w.heap[g]? = some (.cells s0.cells 41 (0, 0))) : ((((w.setCell ⟨g, 0, none⟩ (.int .u64 s.a)).setCell ⟨g, 1, none⟩ (.int .u64 s.b)).setCell ⟨g, 2, none⟩ (.int .u64 s.c)).setCell ⟨g, 3, none⟩ (.int .u64 s.d)).heap[g]? = some (.cells s.cells 41 (0, 0)) := by
  rw [set_heap _ _ 3 _ _ _ _ (set_heap _ _ 2 _ _ _ _ (set_heap _ _ 1 _ _ _ _ (set_heap _ _ 0 _ _ _ _ h)))]
  rfl
theorem set4_kb (w : World) (g : Nat) (s : Ws) : Kb (fun j => j = g) w ((((w.setCell ⟨g, 0, none⟩ (.int .u64 s.a)).setCell ⟨g, 1, none⟩ (.int .u64 s.b)).setCell ⟨g, 2, none⟩ (.int .u64 s.c)).setCell ⟨g, 3, none⟩ (.int .u64 s.d)) :=
  (((Kb.setCell w ⟨g, 0, none⟩ _).trans (Kb.setCell _ ⟨g, 1, none⟩ _) (fun _ _ h => h)).trans (Kb.setCell _ ⟨g, 2, none⟩ _) (fun _ _ h => h)).trans (Kb.setCell _ ⟨g, 3, none⟩ _) (fun _ _ h => h)
theorem ws_cells {w : World} {g : Nat} {s : Ws} (h : w.heap[g]? = some (.cells s.cells 41 (0, 0))) : w.cell? ⟨g, 0, none⟩ = some (.int .u64 s.a) ∧ w.cell? ⟨g, 1, none⟩ = some (.int .u64 s.b) ∧ w.cell? ⟨g, 2, none⟩ = some (.int .u64 s.c) ∧ w.cell? ⟨g, 3, none⟩ = some (.int .u64 s.d) ∧ w.frozen? ⟨g, 0, none⟩ = false ∧ w.frozen? ⟨g, 1, none⟩ = false ∧ w.frozen? ⟨g, 2, none⟩ = false ∧ w.frozen? ⟨g, 3, none⟩ = false :=
  ⟨by rw [Lib.cell_of_heap h]; rfl, by rw [Lib.cell_of_heap h]; rfl, by rw [Lib.cell_of_heap h]; rfl, by rw [Lib.cell_of_heap h]; rfl, Lib.frozen_of_heap h 0, Lib.frozen_of_heap h 1, Lib.frozen_of_heap h 2, Lib.frozen_of_heap h 3⟩
theorem alloc_ws (w : World) : (w.alloc (.cells #[.int .u64 0, .int .u64 0, .int .u64 0, .int .u64 0] 41)).heap[w.heap.size]? = some (.cells (Ws.cells ⟨0, 0, 0, 0⟩) 41 (0, 0)) := heap_alloc_new w _

set_option maxRecDepth 100000 in
set_option maxHeartbeats 2000000 in
theorem letters_any (w : World) (P : Nat) (s : ByteArray) (i : Nat) (ov : Value) (d : Int) (l : Bool) (h : PsB w P s i ov d l) (hi : i ≤ s.size) (hs : s.size ≤ 1000000) :
    Calls Try.prog 70 #[ptr P] w (WsTo P s ov d l (lettersF s.data.toList i) w) := by
  have hPl := lt_of_heap h
  have hb : Below w.heap.size w (w.alloc (.cells #[.int .u64 0, .int .u64 0, .int .u64 0, .int .u64 0] 41)) := (Below.refl _ w).alloc (Nat.le_refl _) _
  have HL := Lib.hid (letter_any (w.alloc (.cells #[.int .u64 0, .int .u64 0, .int .u64 0, .int .u64 0] 41)) P INS s i ov d l (h.below hb) hi hs ins0)
  have HA := Lib.hid (alloc_ws w)
  have HB := Lib.hid hb
  clear h hb
  go_enter Try.func70, Try.ntmps70
  go_wp2_with fail
  refine HL.out.mono ?_
  rintro e w1 ⟨q1, q2⟩
  have hA1 : w1.heap[w.heap.size]? = some (.cells (Ws.cells ⟨0, 0, 0, 0⟩) 41 (0, 0)) := (q1.block _ (by simp) (by omega)).trans HA.out
  have HA1 := Lib.hid hA1
  have hkb1 : Kb (fun j => j = P) w w1 := (Kb.of_below _ HB.out).trans q1 (fun _ _ h => h)
  have HK1 := Lib.hid hkb1
  have hz1 : w.heap.size < w1.heap.size := lt_of_heap hA1
  clear q1 hA1 hkb1
  rcases q2 with ⟨f, j, hr, rfl, hp⟩ | ⟨hr, rfl, j, hj, hp⟩
  · obtain ⟨hf, hij, hj⟩ := letF_ok hr hi ins0
    by_cases h45 : nx s.data.toList j = 45
    · have HT := Lib.hid (take_yes w1 P 45 s j ov d l hp hj hs h45 (by omega))
      have hj1 := nx_in h45 (by omega)
      have hlf : lettersF s.data.toList i = match letF INS s.data.toList (j + 1) with
          | none => none
          | some (g, k) => if g < f then none else some (btw f (g + 1 - f), k) := by
        unfold lettersF; rw [hr]; simp only [if_pos h45]
      have HLF := Lib.hid hlf
      obtain ⟨jj, hjj⟩ : ∃ jj, jj = j + 1 := ⟨_, rfl⟩
      rw [← hjj] at HT HLF
      have hjs : jj ≤ s.size := by omega
      clear hlf hr hp h45 hjj
      go_wp2_with fail
      refine HT.out.mono ?_
      rintro e w2 ⟨rfl, h1, h2⟩
      have hA2 := (h2.block _ hz1 (by omega)).trans HA1.out
      have HA2 := Lib.hid hA2
      have hz2 : w.heap.size < w2.heap.size := lt_of_heap hA2
      have HK2 := Lib.hid (HK1.out.trans h2 (fun _ _ h => h))
      have c1 : w2.cell? ⟨P, 1, none⟩ = some (.int .i64 jj) := by unfold PsB at h1; rw [Lib.cell_of_heap h1]; rfl
      have HL2 := Lib.hid (letter_any w2 P INS s jj ov d l h1 hjs hs ins0)
      clear h1 h2 hA2
      go_wp2_with fail
      refine HL2.out.mono ?_
      rintro e w3 ⟨q1, q2⟩
      have hA3 := (q1.block _ hz2 (by omega)).trans HA2.out
      have HA3 := Lib.hid hA3
      have hz3 : w.heap.size < w3.heap.size := lt_of_heap hA3
      have HK3 := Lib.hid (HK2.out.trans q1 (fun _ _ h => h))
      clear q1 hA3
      rcases q2 with ⟨g, k, hr, rfl, hp⟩ | ⟨hr, rfl, k, hk, hp⟩
      · obtain ⟨hg, hjk, hk⟩ := letF_ok hr hjs ins0
        have hlf := HLF.out
        rw [hr] at hlf
        by_cases hgf : g < f
        · have HLF2 := Lib.hid (show lettersF s.data.toList i = none by rw [hlf]; exact if_pos hgf)
          have hgi : (g : Int) < f := by omega
          obtain ⟨z0, z1, z2, z3, f0, f1, f2, f3⟩ := ws_cells HA3.out
          have c3 : w3.cell? ⟨P, 1, none⟩ = some (.int .i64 k) := by unfold PsB at hp; rw [Lib.cell_of_heap hp]; rfl
          have f3' : w3.frozen? ⟨P, 1, none⟩ = false := Lib.frozen_of_heap hp 1
          have hsp := hp.step jj
          have hA4 : (w3.setCell ⟨P, 1, none⟩ (.int .i64 jj)).heap[w.heap.size]? = some (.cells (Ws.cells ⟨0, 0, 0, 0⟩) 41 (0, 0)) := (Below.heap_setCell _ _ _ _ (by show w.heap.size ≠ P; omega)).trans HA3.out
          obtain ⟨y0, y1, y2, y3, g0, g1, g2, g3⟩ := ws_cells hA4
          have HA4 := Lib.hid hA4; have HS4 := Lib.hid hsp
          have HK4 := Lib.hid (HK3.out.trans (Kb.setCell w3 ⟨P, 1, none⟩ (.int .i64 jj)) (fun _ _ h => h))
          clear hlf hr hp hsp hA4 z0 z1 z2 z3 f0 f1 f2 f3
          go_wp2_with fail
          refine bodyPost_ret (results_ws rfl _ _ w.heap.size ⟨0, 0, 0, 0⟩ (0, 0) rfl (set4 (s := ⟨0, 0, 0, 0⟩) HA4.out)) rfl ?_
          refine ⟨(HK4.out).trans (set4_kb _ w.heap.size ⟨0, 0, 0, 0⟩) (fun i hi h => by omega), .inr ⟨HLF2.out, ⟨0, 0, 0, 0⟩, rfl, jj, hjs, ((set4_kb _ w.heap.size ⟨0, 0, 0, 0⟩).block P (lt_of_heap HS4.out) (by omega)).trans HS4.out⟩⟩
        · have HLF2 := Lib.hid (show lettersF s.data.toList i = some (btw f (g + 1 - f), k) by rw [hlf]; exact if_neg hgf)
          have hgi : ¬ (g : Int) < f := by omega
          have HW := Lib.hid (between_any f g w3 hf hg)
          have HH3 := Lib.hid hp
          clear hlf hr hp
          generalize btw f (g + 1 - f) = ws at HLF2 HW
          go_wp2_with fail
          refine HW.out.mono ?_
          rintro e w4 ⟨rfl, h3⟩
          have hA4 := (h3.block _ hz3).trans HA3.out
          obtain ⟨z0, z1, z2, z3, f0, f1, f2, f3⟩ := ws_cells hA4
          have HA4 := Lib.hid hA4
          have HP4 := Lib.hid (HH3.out.below h3)
          have HK4 := Lib.hid (HK3.out.trans (Kb.of_below (fun j => j = P) h3) (fun _ _ h => h))
          clear hA4 h3
          go_wp2_with fail
          refine bodyPost_ret (results_ws rfl _ _ w.heap.size ws (0, 0) rfl (set4 HA4.out)) rfl ?_
          refine ⟨(HK4.out).trans (set4_kb w4 w.heap.size ws) (fun i hi h => by omega), .inl ⟨ws, k, HLF2.out, rfl, ((set4_kb w4 w.heap.size ws).block P (lt_of_heap HP4.out) (by omega)).trans HP4.out⟩⟩
      · have hlf := HLF.out
        rw [hr] at hlf
        have HLF2 := Lib.hid (show lettersF s.data.toList i = none from hlf)
        have HW := Lib.hid (between_any f 0 w3 hf (by omega))
        have HH3 := Lib.hid hp
        clear hlf hr hp
        generalize btw f (0 + 1 - f) = ws at HW
        go_wp2_with fail
        refine HW.out.mono ?_
        rintro e w4 ⟨rfl, h3⟩
        have hA4 := (h3.block _ hz3).trans HA3.out
        obtain ⟨z0, z1, z2, z3, f0, f1, f2, f3⟩ := ws_cells hA4
        have HA4 := Lib.hid hA4
        have HP4 := Lib.hid (HH3.out.below h3)
        have HK4 := Lib.hid (HK3.out.trans (Kb.of_below (fun j => j = P) h3) (fun _ _ h => h))
        clear hA4 h3
        go_wp2_with fail
        refine bodyPost_ret (results_ws rfl _ _ w.heap.size ws (0, 0) rfl (set4 HA4.out)) rfl ?_
        refine ⟨(HK4.out).trans (set4_kb w4 w.heap.size ws) (fun i hi h => by omega), .inr ⟨HLF2.out, ws, rfl, k, hk, ((set4_kb w4 w.heap.size ws).block P (lt_of_heap HP4.out) (by omega)).trans HP4.out⟩⟩
    · have hlf : lettersF s.data.toList i = some (btw f (f + 1 - f), j) := by
        unfold lettersF; rw [hr]; simp only [if_neg h45]; rw [Nat.add_sub_cancel_left]
      have HT := Lib.hid (take_no w1 P 45 s j ov d l hp hj hs h45)
      have HLF := Lib.hid hlf
      clear hlf hr hp h45
      go_wp2_with fail
      refine HT.out.mono ?_
      rintro e w2 ⟨rfl, h1, h2⟩
      have HW := Lib.hid (between_any f f w2 hf hf)
      have HH2 := Lib.hid h1; have HB2 := Lib.hid h2
      clear h1 h2
      generalize btw f (f + 1 - f) = ws at HLF HW
      go_wp2_with fail
      refine HW.out.mono ?_
      rintro e w3 ⟨rfl, h3⟩
      have hA3 := (h3.block _ (by have := HB2.out.size; omega)).trans ((HB2.out.block _ hz1).trans HA1.out)
      obtain ⟨z0, z1, z2, z3, f0, f1, f2, f3⟩ := ws_cells hA3
      have HA3 := Lib.hid hA3
      have HP3 := Lib.hid (HH2.out.below h3)
      have HK3 := Lib.hid ((HK1.out.trans (Kb.of_below (fun j => j = P) HB2.out) (fun _ _ h => h)).trans (Kb.of_below (fun j => j = P) h3) (fun _ _ h => h))
      clear hA3 h3
      go_wp2_with fail
      refine bodyPost_ret (results_ws rfl _ _ w.heap.size ws (0, 0) rfl (set4 HA3.out)) rfl ?_
      refine ⟨(HK3.out).trans ((set4_kb w3 w.heap.size ws).wider (fun i h => h)) (fun i hi h => by omega), .inl ⟨ws, j, HLF.out, rfl, ((set4_kb w3 w.heap.size ws).block P (lt_of_heap HP3.out) (by omega)).trans HP3.out⟩⟩
  · have HLF2 := Lib.hid (show lettersF s.data.toList i = none by unfold lettersF; rw [hr])
    have HW := Lib.hid (between_any 0 0 w1 (by omega) (by omega))
    have HH1 := Lib.hid hp
    clear hr hp
    generalize btw 0 (0 + 1 - 0) = ws at HW
    go_wp2_with fail
    refine HW.out.mono ?_
    rintro e w4 ⟨rfl, h3⟩
    have hA4 := (h3.block _ hz1).trans HA1.out
    obtain ⟨z0, z1, z2, z3, f0, f1, f2, f3⟩ := ws_cells hA4
    have HA4 := Lib.hid hA4
    have HP4 := Lib.hid (HH1.out.below h3)
    have HK4 := Lib.hid (HK1.out.trans (Kb.of_below (fun j => j = P) h3) (fun _ _ h => h))
    clear hA4 h3
    go_wp2_with fail
    refine bodyPost_ret (results_ws rfl _ _ w.heap.size ws (0, 0) rfl (set4 HA4.out)) rfl ?_
    refine ⟨(HK4.out).trans (set4_kb w4 w.heap.size ws) (fun i hi h => by omega), .inr ⟨HLF2.out, ws, rfl, j, hj, ((set4_kb w4 w.heap.size ws).block P (lt_of_heap HP4.out) (by omega)).trans HP4.out⟩⟩
end Go.Proofs.Ytejdfpieblkapaa
