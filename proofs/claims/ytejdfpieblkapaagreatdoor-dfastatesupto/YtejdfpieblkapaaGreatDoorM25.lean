/- Carried from another seat. -/
import Derived.Test.YtejdfpieblkapaaGreatDoorM21
import Derived.Laws.ResultCell
namespace Go.Proofs.YtejdfpieblkapaaGreatDoor
open Lib renaming hid → zh
open Go.RowKit Go.Shelf


theorem results_ws {fn : Func} {p u : Tmp} (h : fn.results = #[.cell p 100, .tmp u]) (tmps : Array Value) (w : World) (g : Nat) (s : Ws) (fr : Nat × Nat) (hp : tmps.getD p undef = .pointer (some ⟨g, 0, none⟩)) (hg : w.heap[g]? = some (.cells s.cells 100 fr)) :
  (results fn tmps).run Tryz.prog w = .ok (.tuple #[wsV s, tmps.getD u undef]) w := by
 rw [results_cell_tmp h, hp]
 simp [asAddr, run_loadVar_row w g 100 100 s.cells fr _ hg Tryz.underlying100 rfl (by kernel_rfl), Result.andThen]
 rfl

theorem hexF_ok {s : ByteArray} {i b j : Nat} (h : hexF s.data.toList i = some (b, j)) (hi : i ≤ s.size) : b < 256 ∧ i < j ∧ j ≤ s.size := by
 unfold hexF at h
 obtain ⟨n, hn, hh⟩ := Option.map_eq_some_iff.1 h
 injection hh with h1 h2
 have := hexP_lt _ _ _ _ hn
 have := hexP_in hn hi
 simp at *
 omega
theorem escF_ok {sp s : ByteArray} {i b j : Nat} (h : escF sp s.data.toList i = some (b, j)) (_hi : i ≤ s.size) (hsp : inS sp 0 = false) : b < 256 ∧ i < j ∧ j ≤ s.size := by
 unfold escF at h
 have hl := nx_lt s.data.toList i
 split at h
 ·rename_i hx
  have := nx_in hx (by omega)
  have := hexF_ok h (by omega)
  omega
 ·split at h
  ·rename_i hx; have := nx_in hx (by omega); injection h with h; injection h with h1 h2; omega
  ·split at h
   ·rename_i hx; have := nx_in hx (by omega); injection h with h; injection h with h1 h2; omega
   ·split at h
    ·rename_i hx; have := nx_in hx (by omega); injection h with h; injection h with h1 h2; omega
    ·split at h
     ·rename_i hx; have := inS_in hx hsp; injection h with h; injection h with h1 h2; omega
     ·cases h
theorem letF_ok {sp s : ByteArray} {i b j : Nat} (h : letF sp s.data.toList i = some (b, j)) (_hi : i ≤ s.size) (hsp : inS sp 0 = false) : b < 256 ∧ i < j ∧ j ≤ s.size := by
 unfold letF at h
 have hl := nx_lt s.data.toList i
 split at h
 ·rename_i hx
  have := nx_in hx (by omega)
  have := escF_ok h (by omega) hsp
  omega
 ·split at h
  ·cases h
  ·rename_i hx
   have := nx_in (s := s) (i := i) rfl (by omega)
   injection h with h; injection h with h1 h2
   omega

def INS : ByteArray := ⟨#[93, 94, 45, 92]⟩
theorem ins0 : inS INS 0 = false := by decide
def lettersF (L : List UInt8) (i : Nat) : Option (Ws × Nat) := match letF INS L i with
 | none => none
 | some (f, j) => if nx L j = 45 then (match letF INS L (j + 1) with
   | none => none
   | some (g, k) => if g < f then none else some (btw f (g + 1 - f), k)) else some (btw f 1, j)
def WsTo (P : Nat) (s : ByteArray) (ov : Value) (d : Int) (l : Bool) (r : Option (Ws × Nat)) (w : World) (e : Ending) (w' : World) : Prop :=
 Kb (fun j => j = P) w w' ∧ ((∃ b j, r = some (b, j) ∧ e = .returned (.tuple #[wsV b, .bool true]) ∧ PsB w' P s j ov d l) ∨ (r = none ∧ ∃ b, e = .returned (.tuple #[wsV b, .bool false]) ∧ ∃ j, j ≤ s.size ∧ PsB w' P s j ov d l))

theorem set4 {w : World} {g : Nat} {s0 s : Ws} (h : w.heap[g]? = some (.cells s0.cells 100 (0, 0))) : ((((w.setCell ⟨g, 0, none⟩ (.int .u64 s.a)).setCell ⟨g, 1, none⟩ (.int .u64 s.b)).setCell ⟨g, 2, none⟩ (.int .u64 s.c)).setCell ⟨g, 3, none⟩ (.int .u64 s.d)).heap[g]? = some (.cells s.cells 100 (0, 0)) := by
 rw [set_heap _ _ 3 _ _ _ _ (set_heap _ _ 2 _ _ _ _ (set_heap _ _ 1 _ _ _ _ (set_heap _ _ 0 _ _ _ _ h)))]
 rfl
theorem set4_kb (w : World) (g : Nat) (s : Ws) : Kb (fun j => j = g) w ((((w.setCell ⟨g, 0, none⟩ (.int .u64 s.a)).setCell ⟨g, 1, none⟩ (.int .u64 s.b)).setCell ⟨g, 2, none⟩ (.int .u64 s.c)).setCell ⟨g, 3, none⟩ (.int .u64 s.d)) :=
 (((Kb.setCell w ⟨g, 0, none⟩ _).trans (Kb.setCell _ ⟨g, 1, none⟩ _) (fun _ _ h => h)).trans (Kb.setCell _ ⟨g, 2, none⟩ _) (fun _ _ h => h)).trans (Kb.setCell _ ⟨g, 3, none⟩ _) (fun _ _ h => h)
theorem ws_cells {w : World} {g : Nat} {s : Ws} (h : w.heap[g]? = some (.cells s.cells 100 (0, 0))) : w.cell? ⟨g, 0, none⟩ = some (.int .u64 s.a) ∧ w.cell? ⟨g, 1, none⟩ = some (.int .u64 s.b) ∧ w.cell? ⟨g, 2, none⟩ = some (.int .u64 s.c) ∧ w.cell? ⟨g, 3, none⟩ = some (.int .u64 s.d) ∧ w.frozen? ⟨g, 0, none⟩ = false ∧ w.frozen? ⟨g, 1, none⟩ = false ∧ w.frozen? ⟨g, 2, none⟩ = false ∧ w.frozen? ⟨g, 3, none⟩ = false :=
 ⟨by rw [Lib.cell_of_heap h]; rfl, by rw [Lib.cell_of_heap h]; rfl, by rw [Lib.cell_of_heap h]; rfl, by rw [Lib.cell_of_heap h]; rfl, Lib.frozen_of_heap h 0, Lib.frozen_of_heap h 1, Lib.frozen_of_heap h 2, Lib.frozen_of_heap h 3⟩
theorem alloc_ws (w : World) : (w.alloc (.cells #[.int .u64 0, .int .u64 0, .int .u64 0, .int .u64 0] 100)).heap[w.heap.size]? = some (.cells (Ws.cells ⟨0, 0, 0, 0⟩) 100 (0, 0)) := heap_alloc_new w _

set_option maxRecDepth 100000 in
set_option maxHeartbeats 2000000 in
theorem letters_any (w : World) (P : Nat) (s : ByteArray) (i : Nat) (ov : Value) (d : Int) (l : Bool) (h : PsB w P s i ov d l) (hi : i ≤ s.size) (hs : s.size ≤ 1000000) :
  Calls Tryz.prog 154 #[ptr P] w (WsTo P s ov d l (lettersF s.data.toList i) w) := by
 have hPl := lt_of_heap h
 have hb : Below w.heap.size w (w.alloc (.cells #[.int .u64 0, .int .u64 0, .int .u64 0, .int .u64 0] 100)) := (Below.refl _ w).alloc (Nat.le_refl _) _
 have HL := zh (letter_any (w.alloc (.cells #[.int .u64 0, .int .u64 0, .int .u64 0, .int .u64 0] 100)) P INS s i ov d l (h.below hb) hi hs ins0)
 have HA := zh (alloc_ws w)
 have HB := zh hb
 clear h hb
 go_enter Tryz.func154, Tryz.ntmps154
 go_wp2_with fail
 refine HL.out.mono ?_
 rintro e w1 ⟨q1, q2⟩
 have hA1 : w1.heap[w.heap.size]? = some (.cells (Ws.cells ⟨0, 0, 0, 0⟩) 100 (0, 0)) := (q1.block _ (by simp) (by omega)).trans HA.out
 have HA1 := zh hA1
 have hkb1 : Kb (fun j => j = P) w w1 := (Kb.of_below _ HB.out).trans q1 (fun _ _ h => h)
 have HK1 := zh hkb1
 have hz1 : w.heap.size < w1.heap.size := lt_of_heap hA1
 clear q1 hA1 hkb1
 rcases q2 with ⟨f, j, hr, rfl, hp⟩ | ⟨hr, rfl, j, hj, hp⟩
 ·obtain ⟨hf, hij, hj⟩ := letF_ok hr hi ins0
  by_cases h45 : nx s.data.toList j = 45
  ·have HT := zh (take_yes w1 P 45 s j ov d l hp hj hs h45 (by omega))
   have hj1 := nx_in h45 (by omega)
   have hlf : lettersF s.data.toList i = match letF INS s.data.toList (j + 1) with
     | none => none
     | some (g, k) => if g < f then none else some (btw f (g + 1 - f), k) := by
    unfold lettersF; rw [hr]; simp only [if_pos h45]
   have HLF := zh hlf
   obtain ⟨jj, hjj⟩ : ∃ jj, jj = j + 1 := ⟨_, rfl⟩
   rw [← hjj] at HT HLF
   have hjs : jj ≤ s.size := by omega
   clear hlf hr hp h45 hjj
   go_wp2_with fail
   refine HT.out.mono ?_
   rintro e w2 ⟨rfl, h1, h2⟩
   have hA2 := (h2.block _ hz1 (by omega)).trans HA1.out
   have HA2 := zh hA2
   have hz2 : w.heap.size < w2.heap.size := lt_of_heap hA2
   have HK2 := zh (HK1.out.trans h2 (fun _ _ h => h))
   have c1 : w2.cell? ⟨P, 1, none⟩ = some (.int .i64 jj) := by unfold PsB at h1; rw [Lib.cell_of_heap h1]; rfl
   have HL2 := zh (letter_any w2 P INS s jj ov d l h1 hjs hs ins0)
   clear h1 h2 hA2
   go_wp2_with fail
   refine HL2.out.mono ?_
   rintro e w3 ⟨q1, q2⟩
   have hA3 := (q1.block _ hz2 (by omega)).trans HA2.out
   have HA3 := zh hA3
   have hz3 : w.heap.size < w3.heap.size := lt_of_heap hA3
   have HK3 := zh (HK2.out.trans q1 (fun _ _ h => h))
   clear q1 hA3
   rcases q2 with ⟨g, k, hr, rfl, hp⟩ | ⟨hr, rfl, k, hk, hp⟩
   ·obtain ⟨hg, hjk, hk⟩ := letF_ok hr hjs ins0
    have hlf := HLF.out
    rw [hr] at hlf
    by_cases hgf : g < f
    ·have HLF2 := zh (show lettersF s.data.toList i = none by rw [hlf]; exact if_pos hgf)
     have hgi : (g : Int) < f := by omega
     obtain ⟨z0, z1, z2, z3, f0, f1, f2, f3⟩ := ws_cells HA3.out
     have c3 : w3.cell? ⟨P, 1, none⟩ = some (.int .i64 k) := by unfold PsB at hp; rw [Lib.cell_of_heap hp]; rfl
     have f3' : w3.frozen? ⟨P, 1, none⟩ = false := Lib.frozen_of_heap hp 1
     have hsp := hp.step jj
     have hA4 : (w3.setCell ⟨P, 1, none⟩ (.int .i64 jj)).heap[w.heap.size]? = some (.cells (Ws.cells ⟨0, 0, 0, 0⟩) 100 (0, 0)) := (Below.heap_setCell _ _ _ _ (by show w.heap.size ≠ P; omega)).trans HA3.out
     obtain ⟨y0, y1, y2, y3, g0, g1, g2, g3⟩ := ws_cells hA4
     have HA4 := zh hA4; have HS4 := zh hsp
     have HK4 := zh (HK3.out.trans (Kb.setCell w3 ⟨P, 1, none⟩ (.int .i64 jj)) (fun _ _ h => h))
     clear hlf hr hp hsp hA4 z0 z1 z2 z3 f0 f1 f2 f3
     go_wp2_with fail
     refine bodyPost_ret (results_ws rfl _ _ w.heap.size ⟨0, 0, 0, 0⟩ (0, 0) rfl (set4 (s := ⟨0, 0, 0, 0⟩) HA4.out)) rfl ?_
     refine ⟨(HK4.out).trans (set4_kb _ w.heap.size ⟨0, 0, 0, 0⟩) (fun i hi h => by omega), .inr ⟨HLF2.out, ⟨0, 0, 0, 0⟩, rfl, jj, hjs, ((set4_kb _ w.heap.size ⟨0, 0, 0, 0⟩).block P (lt_of_heap HS4.out) (by omega)).trans HS4.out⟩⟩
    ·have HLF2 := zh (show lettersF s.data.toList i = some (btw f (g + 1 - f), k) by rw [hlf]; exact if_neg hgf)
     have hgi : ¬ (g : Int) < f := by omega
     have HW := zh (between_any f g w3 hf hg)
     have HH3 := zh hp
     clear hlf hr hp
     generalize btw f (g + 1 - f) = ws at HLF2 HW
     go_wp2_with fail
     refine HW.out.mono ?_
     rintro e w4 ⟨rfl, h3⟩
     have hA4 := (h3.block _ hz3).trans HA3.out
     obtain ⟨z0, z1, z2, z3, f0, f1, f2, f3⟩ := ws_cells hA4
     have HA4 := zh hA4
     have HP4 := zh (HH3.out.below h3)
     have HK4 := zh (HK3.out.trans (Kb.of_below (fun j => j = P) h3) (fun _ _ h => h))
     clear hA4 h3
     go_wp2_with fail
     refine bodyPost_ret (results_ws rfl _ _ w.heap.size ws (0, 0) rfl (set4 HA4.out)) rfl ?_
     refine ⟨(HK4.out).trans (set4_kb w4 w.heap.size ws) (fun i hi h => by omega), .inl ⟨ws, k, HLF2.out, rfl, ((set4_kb w4 w.heap.size ws).block P (lt_of_heap HP4.out) (by omega)).trans HP4.out⟩⟩
   ·have hlf := HLF.out
    rw [hr] at hlf
    have HLF2 := zh (show lettersF s.data.toList i = none from hlf)
    have HW := zh (between_any f 0 w3 hf (by omega))
    have HH3 := zh hp
    clear hlf hr hp
    generalize btw f (0 + 1 - f) = ws at HW
    go_wp2_with fail
    refine HW.out.mono ?_
    rintro e w4 ⟨rfl, h3⟩
    have hA4 := (h3.block _ hz3).trans HA3.out
    obtain ⟨z0, z1, z2, z3, f0, f1, f2, f3⟩ := ws_cells hA4
    have HA4 := zh hA4
    have HP4 := zh (HH3.out.below h3)
    have HK4 := zh (HK3.out.trans (Kb.of_below (fun j => j = P) h3) (fun _ _ h => h))
    clear hA4 h3
    go_wp2_with fail
    refine bodyPost_ret (results_ws rfl _ _ w.heap.size ws (0, 0) rfl (set4 HA4.out)) rfl ?_
    refine ⟨(HK4.out).trans (set4_kb w4 w.heap.size ws) (fun i hi h => by omega), .inr ⟨HLF2.out, ws, rfl, k, hk, ((set4_kb w4 w.heap.size ws).block P (lt_of_heap HP4.out) (by omega)).trans HP4.out⟩⟩
  ·have hlf : lettersF s.data.toList i = some (btw f (f + 1 - f), j) := by
    unfold lettersF; rw [hr]; simp only [if_neg h45]; rw [Nat.add_sub_cancel_left]
   have HT := zh (take_no w1 P 45 s j ov d l hp hj hs h45)
   have HLF := zh hlf
   clear hlf hr hp h45
   go_wp2_with fail
   refine HT.out.mono ?_
   rintro e w2 ⟨rfl, h1, h2⟩
   have HW := zh (between_any f f w2 hf hf)
   have HH2 := zh h1; have HB2 := zh h2
   clear h1 h2
   generalize btw f (f + 1 - f) = ws at HLF HW
   go_wp2_with fail
   refine HW.out.mono ?_
   rintro e w3 ⟨rfl, h3⟩
   have hA3 := (h3.block _ (by have := HB2.out.size; omega)).trans ((HB2.out.block _ hz1).trans HA1.out)
   obtain ⟨z0, z1, z2, z3, f0, f1, f2, f3⟩ := ws_cells hA3
   have HA3 := zh hA3
   have HP3 := zh (HH2.out.below h3)
   have HK3 := zh ((HK1.out.trans (Kb.of_below (fun j => j = P) HB2.out) (fun _ _ h => h)).trans (Kb.of_below (fun j => j = P) h3) (fun _ _ h => h))
   clear hA3 h3
   go_wp2_with fail
   refine bodyPost_ret (results_ws rfl _ _ w.heap.size ws (0, 0) rfl (set4 HA3.out)) rfl ?_
   refine ⟨(HK3.out).trans ((set4_kb w3 w.heap.size ws).wider (fun i h => h)) (fun i hi h => by omega), .inl ⟨ws, j, HLF.out, rfl, ((set4_kb w3 w.heap.size ws).block P (lt_of_heap HP3.out) (by omega)).trans HP3.out⟩⟩
 ·have HLF2 := zh (show lettersF s.data.toList i = none by unfold lettersF; rw [hr])
  have HW := zh (between_any 0 0 w1 (by omega) (by omega))
  have HH1 := zh hp
  clear hr hp
  generalize btw 0 (0 + 1 - 0) = ws at HW
  go_wp2_with fail
  refine HW.out.mono ?_
  rintro e w4 ⟨rfl, h3⟩
  have hA4 := (h3.block _ hz1).trans HA1.out
  obtain ⟨z0, z1, z2, z3, f0, f1, f2, f3⟩ := ws_cells hA4
  have HA4 := zh hA4
  have HP4 := zh (HH1.out.below h3)
  have HK4 := zh (HK1.out.trans (Kb.of_below (fun j => j = P) h3) (fun _ _ h => h))
  clear hA4 h3
  go_wp2_with fail
  refine bodyPost_ret (results_ws rfl _ _ w.heap.size ws (0, 0) rfl (set4 HA4.out)) rfl ?_
  refine ⟨(HK4.out).trans (set4_kb w4 w.heap.size ws) (fun i hi h => by omega), .inr ⟨HLF2.out, ws, rfl, j, hj, ((set4_kb w4 w.heap.size ws).block P (lt_of_heap HP4.out) (by omega)).trans HP4.out⟩⟩
end Go.Proofs.YtejdfpieblkapaaGreatDoor

/- Carried from another seat. -/
namespace Go.Proofs.YtejdfpieblkapaaGreatDoor
open Lib renaming hid → zh
open Go.RowKit Go.Shelf


def inv64 (x : Nat) : Nat := 18446744073709551615 - x
def Ws.inv (s : Ws) : Nat → Ws
 | 0 => s
 | 1 => ⟨inv64 s.a, s.b, s.c, s.d⟩
 | 2 => ⟨inv64 s.a, inv64 s.b, s.c, s.d⟩
 | 3 => ⟨inv64 s.a, inv64 s.b, inv64 s.c, s.d⟩
 | _ => ⟨inv64 s.a, inv64 s.b, inv64 s.c, inv64 s.d⟩

theorem xor64 (x : Nat) (hx : x < 2 ^ 64) : bits BinOp.xor IntKind.u64 (if IntKind.u64.signed = true then -1 else IntKind.u64.max) (x : Int) = ((inv64 x : Nat) : Int) := by
 have h0 : (if IntKind.u64.signed = true then -1 else IntKind.u64.max) = (18446744073709551615 : Int) := by decide
 rw [h0]
 have hv : BitVec.ofInt 64 (x : Int) = BitVec.ofNat 64 x := by rw [BitVec.ofInt_natCast]
 have ha : BitVec.ofInt 64 (18446744073709551615 : Int) = BitVec.allOnes 64 := by decide
 show IntKind.u64.wrap ((BitVec.ofInt 64 (18446744073709551615 : Int) ^^^ BitVec.ofInt 64 (x : Int)).toNat : Int) = _
 rw [hv, ha, BitVec.allOnes_xor, BitVec.toNat_not, BitVec.toNat_ofNat, Nat.mod_eq_of_lt hx, IntKind.wrap_u64]
 unfold inv64
 omega
theorem inv_ok {s : Ws} : (s.inv 4).Ok := ⟨by show inv64 s.a < 2 ^ 64; unfold inv64; omega, by show inv64 s.b < 2 ^ 64; unfold inv64; omega, by show inv64 s.c < 2 ^ 64; unfold inv64; omega, by show inv64 s.d < 2 ^ 64; unfold inv64; omega⟩

set_option maxRecDepth 100000 in
set_option maxHeartbeats 2000000 in
theorem others_any (s : Ws) (w : World) (hok : s.Ok) : Calls Tryz.prog 133 #[wsV s] w fun e w' => e = .returned (wsV (s.inv 4)) ∧ Below w.heap.size w w' := by
 have hia := xor64 s.a hok.a
 have hib := xor64 s.b hok.b
 have hic := xor64 s.c hok.c
 have hid := xor64 s.d hok.d
 have HIA := zh hia; have HIB := zh hib; have HIC := zh hic; have HID := zh hid
 clear hia hib hic hid
 go_enter Tryz.func133, Tryz.ntmps133
 go_wp2_with fail
 go_loopw [4] (fun i wr => ∃ k : Nat, k ≤ 4 ∧ i = .int .i64 k ∧ Hid (Below w.heap.size w wr) ∧ Hid (wr.heap[w.heap.size]? = some (.cells (s.inv k).cells 100 (0, 0))) ∧ Hid (wr.heap[w.heap.size + 1]? = some (.cells (Ws.cells ⟨0, 0, 0, 0⟩) 100 (0, 0)))) (fun i _ => 4 - (intOf i).toNat)
 case atStart =>
  refine ⟨0, by omega, rfl, ((Below.refl _ w).alloc (Nat.le_refl _) _).alloc (by simp) _, ?_, ?_⟩
  ·exact (Below.heap_alloc _ _ _ (by simp)).trans (heap_alloc_new w _)
  ·exact heap_alloc2_new w _ _
 case round =>
  obtain ⟨k, hk, rfl, HB, HA, HC⟩ := hrel
  have hset : ∀ (j : Nat) (v : Value), Below w.heap.size w (wr.setCell ⟨w.heap.size, j, none⟩ v) ∧ (wr.setCell ⟨w.heap.size, j, none⟩ v).heap[w.heap.size + 1]? = some (.cells (Ws.cells ⟨0, 0, 0, 0⟩) 100 (0, 0)) := fun j v => ⟨HB.out.trans ((Kb.setCell wr ⟨w.heap.size, j, none⟩ v).below HB.out.size (fun i hi => by rw [hi]; exact Nat.le_refl _)), (Below.heap_setCell _ _ _ _ (by show w.heap.size + 1 ≠ w.heap.size; omega)).trans HC.out⟩
  have HS := zh hset
  clear hset
  rcases (show k = 0 ∨ k = 1 ∨ k = 2 ∨ k = 3 ∨ k = 4 by omega) with rfl | rfl | rfl | rfl | rfl
  ·obtain ⟨z0, z1, z2, z3, f0, f1, f2, f3⟩ := ws_cells HA.out
   have z' : wr.cell? ⟨w.heap.size, 0, none⟩ = some (.int .u64 s.a) := z0
   clear z0 z1 z2 z3
   go_wp2
   rw [HIA.out]
   refine ⟨⟨1, by omega, by go_num, (HS.out 0 _).1, ?_, (HS.out 0 _).2⟩, by decide⟩
   show (wr.setCell ⟨w.heap.size, 0, none⟩ _).heap[w.heap.size]? = _
   rw [set_heap wr _ 0 _ _ _ _ HA.out]
   rfl
  ·obtain ⟨z0, z1, z2, z3, f0, f1, f2, f3⟩ := ws_cells HA.out
   have z' : wr.cell? ⟨w.heap.size, 1, none⟩ = some (.int .u64 s.b) := z1
   clear z0 z1 z2 z3
   go_wp2
   rw [HIB.out]
   refine ⟨⟨2, by omega, by go_num, (HS.out 1 _).1, ?_, (HS.out 1 _).2⟩, by decide⟩
   show (wr.setCell ⟨w.heap.size, 1, none⟩ _).heap[w.heap.size]? = _
   rw [set_heap wr _ 1 _ _ _ _ HA.out]
   rfl
  ·obtain ⟨z0, z1, z2, z3, f0, f1, f2, f3⟩ := ws_cells HA.out
   have z' : wr.cell? ⟨w.heap.size, 2, none⟩ = some (.int .u64 s.c) := z2
   clear z0 z1 z2 z3
   go_wp2
   rw [HIC.out]
   refine ⟨⟨3, by omega, by go_num, (HS.out 2 _).1, ?_, (HS.out 2 _).2⟩, by decide⟩
   show (wr.setCell ⟨w.heap.size, 2, none⟩ _).heap[w.heap.size]? = _
   rw [set_heap wr _ 2 _ _ _ _ HA.out]
   rfl
  ·obtain ⟨z0, z1, z2, z3, f0, f1, f2, f3⟩ := ws_cells HA.out
   have z' : wr.cell? ⟨w.heap.size, 3, none⟩ = some (.int .u64 s.d) := z3
   clear z0 z1 z2 z3
   go_wp2
   rw [HID.out]
   refine ⟨⟨4, by omega, by go_num, (HS.out 3 _).1, ?_, (HS.out 3 _).2⟩, by decide⟩
   show (wr.setCell ⟨w.heap.size, 3, none⟩ _).heap[w.heap.size]? = _
   rw [set_heap wr _ 3 _ _ _ _ HA.out]
   rfl
  ·obtain ⟨z0, z1, z2, z3, f0, f1, f2, f3⟩ := ws_cells HA.out
   obtain ⟨y0, y1, y2, y3, g0, g1, g2, g3⟩ := ws_cells HC.out
   clear f0 f1 f2 f3
   generalize ht : s.inv 4 = t at HA z0 z1 z2 z3
   have HT := zh ht
   clear ht
   go_wp2_with fail
   refine bodyPost_ret (results_cell_row rfl _ _ (w.heap.size + 1) 100 t.cells (0, 0) _ rfl (set4 (s := t) HC.out) Tryz.underlying100 rfl (by kernel_rfl)) rfl ?_
   exact ⟨by rw [HT.out]; rfl, HB.out.trans ((set4_kb wr (w.heap.size + 1) t).below HB.out.size (fun i hi => by rw [hi]; omega))⟩
end Go.Proofs.YtejdfpieblkapaaGreatDoor

/- Carried from another seat. -/
namespace Go.Proofs.YtejdfpieblkapaaGreatDoor
open Go.RowKit Go.Shelf


def Ws.un (s t : Ws) : Ws := ⟨s.a ||| t.a, s.b ||| t.b, s.c ||| t.c, s.d ||| t.d⟩
theorem Ws.Ok.un {s t : Ws} (hs : s.Ok) (ht : t.Ok) : (s.un t).Ok := ⟨Nat.or_lt_two_pow hs.a ht.a, Nat.or_lt_two_pow hs.b ht.b, Nat.or_lt_two_pow hs.c ht.c, Nat.or_lt_two_pow hs.d ht.d⟩
def ws0 : Ws := ⟨0, 0, 0, 0⟩
def classP (L : List UInt8) : Nat → Ws → Nat → Option (Ws × Nat)
 | 0, _, _ => none
 | n + 1, s, i => if s ≠ ws0 ∧ nx L i = 93 then some (s, i + 1) else (lettersF L i).bind fun x => classP L n (s.un x.1) x.2
def classF (L : List UInt8) (i : Nat) : Option (Ws × Nat) :=
 if nx L i = 94 then (classP L (L.length + 1) ws0 (i + 1)).map (fun x => (x.1.inv 4, x.2)) else classP L (L.length + 1) ws0 i
theorem lettersF_ok {s : ByteArray} {i j : Nat} {t : Ws} (h : lettersF s.data.toList i = some (t, j)) (hi : i ≤ s.size) : i < j ∧ j ≤ s.size ∧ t.Ok := by
 unfold lettersF at h
 split at h
 ·cases h
 ·rename_i f k hf
  have h1 := letF_ok hf hi ins0
  split at h
  ·rename_i h45
   have h2 := nx_in h45 (by omega)
   split at h
   ·cases h
   ·rename_i g m hg
    have h3 := letF_ok hg (by omega) ins0
    split at h
    ·cases h
    ·injection h with h; injection h with e1 e2
     subst e1
     exact ⟨by omega, by omega, btw_ok _ _⟩
  ·injection h with h; injection h with e1 e2
   subst e1
   exact ⟨by omega, by omega, btw_ok _ _⟩

theorem eq_in (x : Nat) (d : Nat) (w : World) : (Op.equalIn (d + 1) 99 (.int .u64 (x : Int)) (.int .u64 0)).run Tryz.prog w = .ok (decide (x = 0)) w := by
 rw [run_equalIn_int w d 99 .u64 .u64 x 0 Tryz.underlying99]
 congr 1
 rw [Bool.eq_iff_iff]
 simp
theorem part40 (xs : Array Value) (i : Nat) (v : Value) (h : xs[i]? = some v) (w : World) : (part 99 xs i).run Tryz.prog w = .ok v w := by
 simp [part, Tryz.isAgg99, h]
theorem eql_ws (s : Ws) (w : World) : (binOp .eql 100 (.agg #[.int .u64 s.a, .int .u64 s.b, .int .u64 s.c, .int .u64 s.d]) (.agg #[.int .u64 0, .int .u64 0, .int .u64 0, .int .u64 0])).run Tryz.prog w = .ok (.bool (decide (s = ws0))) w := by
 rw [run_eql_struct]
 have h : ∀ d, (Op.equalIn (d + 2) 100 (.agg #[.int .u64 s.a, .int .u64 s.b, .int .u64 s.c, .int .u64 s.d]) (.agg #[.int .u64 0, .int .u64 0, .int .u64 0, .int .u64 0])).run Tryz.prog w = .ok (decide (s = ws0)) w := fun d => by
  have e0 := eq_in s.a d w
  have e1 := eq_in s.b d w
  have e2 := eq_in s.c d w
  have e3 := eq_in s.d d w
  have hd : decide (s = ws0) = (decide (s.a = 0) && decide (s.b = 0) && decide (s.c = 0) && decide (s.d = 0)) := by
   rw [Bool.eq_iff_iff]
   simp only [decide_eq_true_eq, Bool.and_eq_true]
   constructor
   ·rintro rfl; exact ⟨⟨⟨rfl, rfl⟩, rfl⟩, rfl⟩
   ·rintro ⟨⟨⟨h0, h1⟩, h2⟩, h3⟩
    cases s
    simp only at h0 h1 h2 h3
    subst h0 h1 h2 h3
    rfl
  rw [Op.equalIn, hd]
  generalize decide (s.a = 0) = b0 at e0
  generalize decide (s.b = 0) = b1 at e1
  generalize decide (s.c = 0) = b2 at e2
  generalize decide (s.d = 0) = b3 at e3
  cases b0 <;> cases b1 <;> cases b2 <;> cases b3 <;> simp [run_underlying Tryz.underlying100, Tryz.sizeOf99, List.range', part40, Result.andThen, e0, e1, e2, e3]
 rw [h 9998]
 rfl
end Go.Proofs.YtejdfpieblkapaaGreatDoor

/- Carried from another seat. -/
namespace Go.Proofs.YtejdfpieblkapaaGreatDoor
open Lib renaming hid → zh
open Go.RowKit Go.Shelf


def Ws.unk (s t : Ws) : Nat → Ws
 | 0 => s
 | 1 => ⟨s.a ||| t.a, s.b, s.c, s.d⟩
 | 2 => ⟨s.a ||| t.a, s.b ||| t.b, s.c, s.d⟩
 | 3 => ⟨s.a ||| t.a, s.b ||| t.b, s.c ||| t.c, s.d⟩
 | _ => s.un t
theorem or64' (x y : Nat) (hx : x < 2 ^ 64) (hy : y < 2 ^ 64) : bits .or .u64 (x : Int) (y : Int) = ((x ||| y : Nat) : Int) := by
 have hw : ∀ y : Nat, y < 2 ^ 64 → IntKind.u64.wrap (y : Int) = (y : Int) := fun y hy => by
  rw [IntKind.wrap_u64]; omega
 have hv : ∀ y : Nat, y < 2 ^ 64 → (BitVec.ofInt 64 (y : Int)).toNat = y := fun y hy => by
  rw [BitVec.ofInt_natCast, BitVec.toNat_ofNat]; exact Nat.mod_eq_of_lt hy
 show IntKind.u64.wrap ((BitVec.ofInt 64 (x : Int) ||| BitVec.ofInt 64 (y : Int)).toNat : Int) = _
 rw [BitVec.toNat_or, hv x hx, hv y hy]
 exact hw _ (Nat.or_lt_two_pow hx hy)

def ClAt (w : World) (P : Nat) (s : ByteArray) (ov : Value) (d : Int) (l : Bool) (C0 : Option (Ws × Nat)) (k : Nat) (wr : World) : Prop :=
 ∃ st i, i ≤ s.size ∧ classP s.data.toList k st i = C0 ∧ s.size + 1 ≤ k + i ∧ st.Ok ∧ PsB wr P s i ov d l ∧ wr.heap[w.heap.size]? = some (.cells ws0.cells 100 (0, 0)) ∧ wr.heap[w.heap.size + 1]? = some (.cells st.cells 100 (0, 0)) ∧ Kb (fun j => j = P) w wr

set_option maxRecDepth 100000 in
set_option maxHeartbeats 4000000 in
theorem class_any (w : World) (P : Nat) (s : ByteArray) (i : Nat) (ov : Value) (d : Int) (l : Bool) (h : PsB w P s i ov d l) (hi : i ≤ s.size) (hs : s.size ≤ 1000000) :
  Calls Tryz.prog 135 #[ptr P] w (WsTo P s ov d l (classF s.data.toList i) w) := by
 have hPl := lt_of_heap h
 have hb : Below w.heap.size w ((w.alloc (.cells #[.int .u64 0, .int .u64 0, .int .u64 0, .int .u64 0] 100)).alloc (.cells #[.int .u64 0, .int .u64 0, .int .u64 0, .int .u64 0] 100)) := ((Below.refl _ w).alloc (Nat.le_refl _) _).alloc (by simp) _
 have ha0 : ((w.alloc (.cells #[.int .u64 0, .int .u64 0, .int .u64 0, .int .u64 0] 100)).alloc (.cells #[.int .u64 0, .int .u64 0, .int .u64 0, .int .u64 0] 100)).heap[w.heap.size]? = some (.cells ws0.cells 100 (0, 0)) := (Below.heap_alloc _ _ _ (by simp)).trans (heap_alloc_new w _)
 have ha1 : ((w.alloc (.cells #[.int .u64 0, .int .u64 0, .int .u64 0, .int .u64 0] 100)).alloc (.cells #[.int .u64 0, .int .u64 0, .int .u64 0, .int .u64 0] 100)).heap[w.heap.size + 1]? = some (.cells ws0.cells 100 (0, 0)) := heap_alloc2_new w _ _
 have hlenL : s.data.toList.length = s.size := by rw [← Lib.size_eq]
 have HT : Calls Tryz.prog 106 #[ptr P, .int .u8 94] ((w.alloc (.cells #[.int .u64 0, .int .u64 0, .int .u64 0, .int .u64 0] 100)).alloc (.cells #[.int .u64 0, .int .u64 0, .int .u64 0, .int .u64 0] 100)) fun e w1 => ∃ tn i1, e = .returned (.bool tn) ∧ classF s.data.toList i = (if tn = true then (classP s.data.toList (s.size + 1) ws0 i1).map (fun x => (x.1.inv 4, x.2)) else classP s.data.toList (s.size + 1) ws0 i1) ∧ ClAt w P s ov d l (classP s.data.toList (s.size + 1) ws0 i1) (s.size + 1) w1 := by
  by_cases h94 : nx s.data.toList i = 94
  ·refine (take_yes _ P 94 s i ov d l (h.below hb) hi hs h94 (by omega)).mono ?_
   rintro e w1 ⟨rfl, h1, h2⟩
   have := nx_in h94 (by omega)
   refine ⟨true, i + 1, rfl, by unfold classF; rw [if_pos h94, hlenL]; rfl, ws0, i + 1, by omega, rfl, by omega, ⟨by decide, by decide, by decide, by decide⟩, h1, (h2.block _ (lt_of_heap ha0) (by omega)).trans ha0, (h2.block _ (lt_of_heap ha1) (by omega)).trans ha1, (Kb.of_below _ hb).trans h2 (fun _ _ h => h)⟩
  ·refine (take_no _ P 94 s i ov d l (h.below hb) hi hs h94).mono ?_
   rintro e w1 ⟨rfl, h1, h2⟩
   refine ⟨false, i, rfl, by unfold classF; rw [if_neg h94, hlenL]; rfl, ws0, i, hi, rfl, by omega, ⟨by decide, by decide, by decide, by decide⟩, h1, (h2.block _ (lt_of_heap ha0)).trans ha0, (h2.block _ (lt_of_heap ha1)).trans ha1, (Kb.of_below _ hb).trans (Kb.of_below _ h2) (fun _ _ h => h)⟩
 have HTT := zh HT
 clear HT h hb ha0 ha1 hlenL
 go_enter Tryz.func135, Tryz.ntmps135
 go_wp2_with fail
 refine HTT.out.mono ?_
 rintro e w1 ⟨tn, i1, rfl, hcl, hat⟩
 have HCL := zh hcl; have HAT := zh hat
 clear hcl hat HTT
 generalize classP s.data.toList (s.size + 1) ws0 i1 = C0 at HCL HAT
 go_wp2_with fail
 go_loopg [] (s.size + 1) (fun k wr => ClAt w P s ov d l C0 k wr)
 case atStart => exact HAT.out
 case round =>
  obtain ⟨st, i2, hi2, hcp, hk, hok, hps, hA, hC, hK⟩ := hrel
  obtain ⟨z0, z1, z2, z3, f0, f1, f2, f3⟩ := ws_cells hC
  have heq := fun w' => eql_ws st w'
  rcases gk with _ | gk
  ·omega
  by_cases h0 : st = ws0
  ·have hcpb : C0 = (lettersF s.data.toList i2).bind (fun x => classP s.data.toList gk (st.un x.1) x.2) := by
    rw [← hcp]; simp only [classP]; rw [if_neg (fun h => h.1 h0)]
   rw [decide_eq_true h0] at heq
   clear h0
   have HLT := zh (letters_any wr P s i2 ov d l hps hi2 hs)
   have HH := zh (And.intro hcpb (And.intro hps (And.intro hA (And.intro hC hK))))
   have hzb : w.heap.size + 1 < wr.heap.size := lt_of_heap hC
   clear hcpb hps hA hC hK
   go_wp2_with fail
   refine HLT.out.mono ?_
   rintro e w3 ⟨q1, q2⟩
   clear heq z0 z1 z2 z3 f0 f1 f2 f3
   have hA3 := (q1.block _ (by omega) (by omega)).trans HH.out.2.2.1
   have hC3 := (q1.block _ hzb (by omega)).trans HH.out.2.2.2.1
   have HK3 := zh (HH.out.2.2.2.2.trans q1 (fun _ _ h => h))
   have HA3 := zh hA3; have HC3 := zh hC3
   have hz3 : w.heap.size + 1 < w3.heap.size := lt_of_heap hC3
   clear q1
   rcases q2 with ⟨t, j, hr, rfl, hp⟩ | ⟨hr, t, rfl, j, hj, hp⟩
   ·obtain ⟨hij, hj, htok⟩ := lettersF_ok hr hi2
    have hc0 : C0 = classP s.data.toList gk (st.un t) j := by rw [HH.out.1, hr]; rfl
    have HC0 := zh hc0
    have hA4 : (w3.alloc (.cells t.cells 100)).heap[w.heap.size]? = some (.cells ws0.cells 100 (0, 0)) := (Below.heap_alloc _ _ _ (by omega)).trans hA3
    have hC4 : (w3.alloc (.cells t.cells 100)).heap[w.heap.size + 1]? = some (.cells st.cells 100 (0, 0)) := (Below.heap_alloc _ _ _ hz3).trans hC3
    have hT4 : (w3.alloc (.cells t.cells 100)).heap[w3.heap.size]? = some (.cells t.cells 100 (0, 0)) := heap_alloc_new w3 _
    have hP4 : PsB (w3.alloc (.cells t.cells 100)) P s j ov d l := hp.below ((Below.refl _ w3).alloc (Nat.le_refl _) _)
    have HK4 := zh (HK3.out.trans (Kb.of_below (fun j => j = P) ((Below.refl _ w3).alloc (Nat.le_refl _) (.cells t.cells 100))) (fun _ _ h => h))
    have H4 := zh (And.intro hA4 (And.intro hC4 (And.intro hT4 hP4)))
    clear hA3 hC3 hA4 hC4 hT4 hP4 hr hp hc0
    go_wp2_with fail
    generalize hw4 : w3.alloc (.cells #[.int .u64 t.a, .int .u64 t.b, .int .u64 t.c, .int .u64 t.d] 100) = w4
    have H4' : w4.heap[w.heap.size]? = some (.cells ws0.cells 100 (0, 0)) ∧ w4.heap[w.heap.size + 1]? = some (.cells st.cells 100 (0, 0)) ∧ w4.heap[w3.heap.size]? = some (.cells t.cells 100 (0, 0)) ∧ PsB w4 P s j ov d l := by rw [← hw4]; exact H4.out
    have HK4' : Kb (fun j => j = P) w w4 := by rw [← hw4]; exact HK4.out
    have H5 := zh H4'; have HK5 := zh HK4'
    clear H4 HK4 H4' HK4' hw4
    obtain ⟨T, hT⟩ : ∃ T, T = w3.heap.size := ⟨_, rfl⟩
    rw [← hT] at H5 hz3 ⊢
    clear hT
    go_loopw [27] (fun a wq => ∃ k : Nat, k ≤ 4 ∧ a = .int .i64 k ∧ Hid (wq.heap[w.heap.size]? = some (.cells ws0.cells 100 (0, 0)) ∧ wq.heap[w.heap.size + 1]? = some (.cells (st.unk t k).cells 100 (0, 0)) ∧ wq.heap[T]? = some (.cells t.cells 100 (0, 0)) ∧ PsB wq P s j ov d l) ∧ Hid (Kb (fun j => j = P) w wq)) (fun a _ => 4 - (intOf a).toNat)
    case atStart => exact ⟨0, by omega, rfl, H5.out, HK5.out⟩
    case round =>
     obtain ⟨k, hk4, rfl, HQ, HKQ⟩ := hrel
     obtain ⟨qa, qc, qt, qp⟩ := HQ.out
     have hmv : ∀ (m : Nat) (v : Value), (wr.setCell ⟨w.heap.size + 1, m, none⟩ v).drew.heap[w.heap.size]? = some (Obj.cells ws0.cells 100 (0, 0)) ∧ (wr.setCell ⟨w.heap.size + 1, m, none⟩ v).drew.heap[T]? = some (Obj.cells t.cells 100 (0, 0)) ∧ PsB (wr.setCell ⟨w.heap.size + 1, m, none⟩ v).drew P s j ov d l ∧ Kb (fun j => j = P) w (wr.setCell ⟨w.heap.size + 1, m, none⟩ v).drew := fun m v => ⟨(Below.heap_setCell wr ⟨w.heap.size + 1, m, none⟩ v _ (by show w.heap.size ≠ w.heap.size + 1; omega)).trans qa, (Below.heap_setCell wr ⟨w.heap.size + 1, m, none⟩ v _ (by show T ≠ w.heap.size + 1; omega)).trans qt, (Below.heap_setCell wr ⟨w.heap.size + 1, m, none⟩ v _ (by show P ≠ w.heap.size + 1; omega)).trans qp, (HKQ.out.trans (Kb.setCell wr ⟨w.heap.size + 1, m, none⟩ v) (fun i hi h => by have h' : i = w.heap.size + 1 := h; omega)).drew⟩
     have HMV := zh hmv; have HQC := zh qc
     obtain ⟨z0, z1, z2, z3, f0, f1, f2, f3⟩ := ws_cells qc
     obtain ⟨t0, t1, t2, t3, _, _, _, _⟩ := ws_cells qt
     clear hmv qa qc qt qp
     rcases (show k = 0 ∨ k = 1 ∨ k = 2 ∨ k = 3 ∨ k = 4 by omega) with rfl | rfl | rfl | rfl | rfl
     ·have z' : wr.cell? ⟨w.heap.size + 1, 0, none⟩ = some (.int .u64 st.a) := z0
      have hor := or64' st.a t.a hok.a htok.a
      have HOR := zh hor
      clear hor z0 z1 t1 f1 z2 t2 f2 z3 t3 f3
      go_wp2_with fail
      go_region
      go_wp2
      rw [HOR.out]
      refine ⟨⟨1, by omega, by go_num, ⟨(HMV.out 0 _).1, ?_, (HMV.out 0 _).2.1, (HMV.out 0 _).2.2.1⟩, (HMV.out 0 _).2.2.2⟩, by decide⟩
      show (wr.setCell ⟨w.heap.size + 1, 0, none⟩ _).heap[w.heap.size + 1]? = _
      rw [set_heap wr _ 0 _ _ _ _ HQC.out]
      rfl
     ·have z' : wr.cell? ⟨w.heap.size + 1, 1, none⟩ = some (.int .u64 st.b) := z1
      have hor := or64' st.b t.b hok.b htok.b
      have HOR := zh hor
      clear hor z1 z0 t0 f0 z2 t2 f2 z3 t3 f3
      go_wp2_with fail
      go_region
      go_wp2
      rw [HOR.out]
      refine ⟨⟨2, by omega, by go_num, ⟨(HMV.out 1 _).1, ?_, (HMV.out 1 _).2.1, (HMV.out 1 _).2.2.1⟩, (HMV.out 1 _).2.2.2⟩, by decide⟩
      show (wr.setCell ⟨w.heap.size + 1, 1, none⟩ _).heap[w.heap.size + 1]? = _
      rw [set_heap wr _ 1 _ _ _ _ HQC.out]
      rfl
     ·have z' : wr.cell? ⟨w.heap.size + 1, 2, none⟩ = some (.int .u64 st.c) := z2
      have hor := or64' st.c t.c hok.c htok.c
      have HOR := zh hor
      clear hor z2 z0 t0 f0 z1 t1 f1 z3 t3 f3
      go_wp2_with fail
      go_region
      go_wp2
      rw [HOR.out]
      refine ⟨⟨3, by omega, by go_num, ⟨(HMV.out 2 _).1, ?_, (HMV.out 2 _).2.1, (HMV.out 2 _).2.2.1⟩, (HMV.out 2 _).2.2.2⟩, by decide⟩
      show (wr.setCell ⟨w.heap.size + 1, 2, none⟩ _).heap[w.heap.size + 1]? = _
      rw [set_heap wr _ 2 _ _ _ _ HQC.out]
      rfl
     ·have z' : wr.cell? ⟨w.heap.size + 1, 3, none⟩ = some (.int .u64 st.d) := z3
      have hor := or64' st.d t.d hok.d htok.d
      have HOR := zh hor
      clear hor z3 z0 t0 f0 z1 t1 f1 z2 t2 f2
      go_wp2_with fail
      go_region
      go_wp2
      rw [HOR.out]
      refine ⟨⟨4, by omega, by go_num, ⟨(HMV.out 3 _).1, ?_, (HMV.out 3 _).2.1, (HMV.out 3 _).2.2.1⟩, (HMV.out 3 _).2.2.2⟩, by decide⟩
      show (wr.setCell ⟨w.heap.size + 1, 3, none⟩ _).heap[w.heap.size + 1]? = _
      rw [set_heap wr _ 3 _ _ _ _ HQC.out]
      rfl
     ·clear z0 z1 z2 z3 t0 t1 t2 t3 f0 f1 f2 f3
      go_wp2_with fail
      go_roundg gk
      case measure => omega
      case rel =>
       obtain ⟨qa, qc, qt, qp⟩ := HQ.out
       exact ⟨st.un t, j, hj, HC0.out.symm, by omega, hok.un htok, qp, qa, qc, HKQ.out⟩
   ·obtain ⟨z0, z1, z2, z3, _, _, _, _⟩ := ws_cells hC3
    obtain ⟨y0, y1, y2, y3, g0, g1, g2, g3⟩ := ws_cells hA3
    have hcf : classF s.data.toList i = none := by
     rw [HCL.out, HH.out.1, hr]; cases tn <;> rfl
    have HCF := zh hcf
    have hA4 : (w3.alloc (.cells #[.int .u64 t.a, .int .u64 t.b, .int .u64 t.c, .int .u64 t.d] 100)).heap[w.heap.size]? = some (.cells ws0.cells 100 (0, 0)) := (Below.heap_alloc _ _ _ (by omega)).trans hA3
    obtain ⟨v0, v1, v2, v3, k0, k1, k2, k3⟩ := ws_cells hA4
    clear y0 y1 y2 y3 g0 g1 g2 g3
    have HA4 := zh hA4
    have HP4 := zh (hp.below ((Below.refl _ w3).alloc (Nat.le_refl _) (.cells #[.int .u64 t.a, .int .u64 t.b, .int .u64 t.c, .int .u64 t.d] 100)))
    have HK4 := zh (HK3.out.trans (Kb.of_below (fun j => j = P) ((Below.refl _ w3).alloc (Nat.le_refl _) (.cells #[.int .u64 t.a, .int .u64 t.b, .int .u64 t.c, .int .u64 t.d] 100))) (fun _ _ h => h))
    clear hA3 hC3 hA4 hp hr hcf
    go_wp2_with fail
    (try simp only [Exit.inBlock, Exit.then])
    refine bodyPost_ret (results_ws rfl _ _ w.heap.size st (0, 0) rfl (set4 HA4.out)) rfl ?_
    exact ⟨HK4.out.trans (set4_kb _ w.heap.size st) (fun i hi h => by omega), .inr ⟨HCF.out, st, rfl, j, hj, ((set4_kb _ w.heap.size st).block P (lt_of_heap HP4.out) (by omega)).trans HP4.out⟩⟩
  ·rw [decide_eq_false h0] at heq
   by_cases h93 : nx s.data.toList i2 = 93
   ·have hc0 : C0 = some (st, i2 + 1) := by rw [← hcp]; simp only [classP]; rw [if_pos ⟨h0, h93⟩]
    have hi3 := nx_in h93 (by omega)
    have HT := zh (take_yes wr P 93 s i2 ov d l hps hi2 hs h93 (by omega))
    have HH := zh (And.intro hc0 (And.intro hA (And.intro hC hK)))
    have hzr : w.heap.size + 1 < wr.heap.size := lt_of_heap hC
    clear hcp hps hA hC hK hc0
    go_wp2_with fail
    refine HT.out.mono ?_
    rintro e w3 ⟨rfl, h1, h2⟩
    have hA3 := (h2.block _ (by omega) (by omega)).trans HH.out.2.1
    have hC3 := (h2.block _ hzr (by omega)).trans HH.out.2.2.1
    obtain ⟨y0, y1, y2, y3, g0, g1, g2, g3⟩ := ws_cells hA3
    obtain ⟨x0, x1, x2, x3, e0, e1, e2, e3⟩ := ws_cells hC3
    have HP3 := zh h1; have HA3 := zh hA3; have HC3 := zh hC3
    have HK3 := zh (HH.out.2.2.2.trans h2 (fun _ _ h => h))
    clear h1 h2 hA3 hC3 z0 z1 z2 z3 f0 f1 f2 f3 heq
    cases tn
    ·have hcf : classF s.data.toList i = some (st, i2 + 1) := by rw [HCL.out, HH.out.1]; rfl
     have HCF := zh hcf
     clear hcf e0 e1 e2 e3
     go_wp2_with fail
     refine bodyPost_ret (results_ws rfl _ _ w.heap.size st (0, 0) rfl (set4 HA3.out)) rfl ?_
     exact ⟨HK3.out.trans (set4_kb w3 w.heap.size st) (fun i hi h => by omega), .inl ⟨st, i2 + 1, HCF.out, rfl, ((set4_kb w3 w.heap.size st).block P (lt_of_heap HP3.out) (by omega)).trans HP3.out⟩⟩
    ·have hcf : classF s.data.toList i = some (st.inv 4, i2 + 1) := by rw [HCL.out, HH.out.1]; rfl
     have HCF := zh hcf
     have HO := zh (others_any st w3 hok)
     generalize st.inv 4 = sv at HCF HO
     clear hcf g0 g1 g2 g3 y0 y1 y2 y3
     go_wp2_with fail
     refine HO.out.mono ?_
     rintro e w4 ⟨rfl, h4⟩
     have hz4 : w.heap.size + 1 < w3.heap.size := lt_of_heap HC3.out
     have hA4 := (h4.block _ (by omega)).trans HA3.out
     have hC4 := (h4.block _ hz4).trans HC3.out
     obtain ⟨v0, v1, v2, v3, k0, k1, k2, k3⟩ := ws_cells hA4
     obtain ⟨c0, c1, c2, c3, d0, d1, d2, d3⟩ := ws_cells hC4
     have HP4 := zh (HP3.out.below h4); have HA4 := zh hA4; have HC4 := zh hC4
     have HK4 := zh (HK3.out.trans (Kb.of_below (fun j => j = P) h4) (fun _ _ h => h))
     clear hA4 hC4 h4 x0 x1 x2 x3 e0 e1 e2 e3
     go_wp2_with fail
     have hk5 := set4_kb w4 (w.heap.size + 1) sv
     have hA5 := (hk5.block _ (lt_of_heap HA4.out) (by omega)).trans HA4.out
     have hP5 : PsB _ P s (i2 + 1) ov d l := (hk5.block P (lt_of_heap HP4.out) (by omega)).trans HP4.out
     refine bodyPost_ret (results_ws rfl _ _ w.heap.size sv (0, 0) rfl (set4 hA5)) rfl ?_
     exact ⟨(HK4.out.trans hk5 (fun i hi h => by omega)).trans (set4_kb _ w.heap.size sv) (fun i hi h => by omega), .inl ⟨sv, i2 + 1, HCF.out, rfl, ((set4_kb _ w.heap.size sv).block P (lt_of_heap hP5) (by omega)).trans hP5⟩⟩
   ·have hcpb : C0 = (lettersF s.data.toList i2).bind (fun x => classP s.data.toList gk (st.un x.1) x.2) := by
     rw [← hcp]; simp only [classP]; rw [if_neg (fun h => h93 h.2)]
    have HT := zh (take_no wr P 93 s i2 ov d l hps hi2 hs h93)
    have hzr : w.heap.size + 1 < wr.heap.size := lt_of_heap hC
    have HG := zh (And.intro hcpb (And.intro hA (And.intro hC hK)))
    clear hcpb hps hA hC hK
    go_wp2_with fail
    refine HT.out.mono ?_
    rintro e w2 ⟨rfl, hps, h2⟩
    have hcpb := HG.out.1
    have hA := (h2.block _ (by omega)).trans HG.out.2.1
    have hC := (h2.block _ hzr).trans HG.out.2.2.1
    have hK := HG.out.2.2.2.trans (Kb.of_below (fun j => j = P) h2) (fun _ _ h => h)
    clear h2
    have HLT := zh (letters_any w2 P s i2 ov d l hps hi2 hs)
    have HH := zh (And.intro hcpb (And.intro hps (And.intro hA (And.intro hC hK))))
    have hzb : w.heap.size + 1 < w2.heap.size := lt_of_heap hC
    clear hcpb hps hA hC hK
    go_wp2_with fail
    refine HLT.out.mono ?_
    rintro e w3 ⟨q1, q2⟩
    clear heq z0 z1 z2 z3 f0 f1 f2 f3
    have hA3 := (q1.block _ (by omega) (by omega)).trans HH.out.2.2.1
    have hC3 := (q1.block _ hzb (by omega)).trans HH.out.2.2.2.1
    have HK3 := zh (HH.out.2.2.2.2.trans q1 (fun _ _ h => h))
    have HA3 := zh hA3; have HC3 := zh hC3
    have hz3 : w.heap.size + 1 < w3.heap.size := lt_of_heap hC3
    clear q1
    rcases q2 with ⟨t, j, hr, rfl, hp⟩ | ⟨hr, t, rfl, j, hj, hp⟩
    ·obtain ⟨hij, hj, htok⟩ := lettersF_ok hr hi2
     have hc0 : C0 = classP s.data.toList gk (st.un t) j := by rw [HH.out.1, hr]; rfl
     have HC0 := zh hc0
     have hA4 : (w3.alloc (.cells t.cells 100)).heap[w.heap.size]? = some (.cells ws0.cells 100 (0, 0)) := (Below.heap_alloc _ _ _ (by omega)).trans hA3
     have hC4 : (w3.alloc (.cells t.cells 100)).heap[w.heap.size + 1]? = some (.cells st.cells 100 (0, 0)) := (Below.heap_alloc _ _ _ hz3).trans hC3
     have hT4 : (w3.alloc (.cells t.cells 100)).heap[w3.heap.size]? = some (.cells t.cells 100 (0, 0)) := heap_alloc_new w3 _
     have hP4 : PsB (w3.alloc (.cells t.cells 100)) P s j ov d l := hp.below ((Below.refl _ w3).alloc (Nat.le_refl _) _)
     have HK4 := zh (HK3.out.trans (Kb.of_below (fun j => j = P) ((Below.refl _ w3).alloc (Nat.le_refl _) (.cells t.cells 100))) (fun _ _ h => h))
     have H4 := zh (And.intro hA4 (And.intro hC4 (And.intro hT4 hP4)))
     clear hA3 hC3 hA4 hC4 hT4 hP4 hr hp hc0
     go_wp2_with fail
     generalize hw4 : w3.alloc (.cells #[.int .u64 t.a, .int .u64 t.b, .int .u64 t.c, .int .u64 t.d] 100) = w4
     have H4' : w4.heap[w.heap.size]? = some (.cells ws0.cells 100 (0, 0)) ∧ w4.heap[w.heap.size + 1]? = some (.cells st.cells 100 (0, 0)) ∧ w4.heap[w3.heap.size]? = some (.cells t.cells 100 (0, 0)) ∧ PsB w4 P s j ov d l := by rw [← hw4]; exact H4.out
     have HK4' : Kb (fun j => j = P) w w4 := by rw [← hw4]; exact HK4.out
     have H5 := zh H4'; have HK5 := zh HK4'
     clear H4 HK4 H4' HK4' hw4
     obtain ⟨T, hT⟩ : ∃ T, T = w3.heap.size := ⟨_, rfl⟩
     rw [← hT] at H5 hz3 ⊢
     clear hT
     go_loopw [27] (fun a wq => ∃ k : Nat, k ≤ 4 ∧ a = .int .i64 k ∧ Hid (wq.heap[w.heap.size]? = some (.cells ws0.cells 100 (0, 0)) ∧ wq.heap[w.heap.size + 1]? = some (.cells (st.unk t k).cells 100 (0, 0)) ∧ wq.heap[T]? = some (.cells t.cells 100 (0, 0)) ∧ PsB wq P s j ov d l) ∧ Hid (Kb (fun j => j = P) w wq)) (fun a _ => 4 - (intOf a).toNat)
     case atStart => exact ⟨0, by omega, rfl, H5.out, HK5.out⟩
     case round =>
      obtain ⟨k, hk4, rfl, HQ, HKQ⟩ := hrel
      obtain ⟨qa, qc, qt, qp⟩ := HQ.out
      have hmv : ∀ (m : Nat) (v : Value), (wr.setCell ⟨w.heap.size + 1, m, none⟩ v).drew.heap[w.heap.size]? = some (Obj.cells ws0.cells 100 (0, 0)) ∧ (wr.setCell ⟨w.heap.size + 1, m, none⟩ v).drew.heap[T]? = some (Obj.cells t.cells 100 (0, 0)) ∧ PsB (wr.setCell ⟨w.heap.size + 1, m, none⟩ v).drew P s j ov d l ∧ Kb (fun j => j = P) w (wr.setCell ⟨w.heap.size + 1, m, none⟩ v).drew := fun m v => ⟨(Below.heap_setCell wr ⟨w.heap.size + 1, m, none⟩ v _ (by show w.heap.size ≠ w.heap.size + 1; omega)).trans qa, (Below.heap_setCell wr ⟨w.heap.size + 1, m, none⟩ v _ (by show T ≠ w.heap.size + 1; omega)).trans qt, (Below.heap_setCell wr ⟨w.heap.size + 1, m, none⟩ v _ (by show P ≠ w.heap.size + 1; omega)).trans qp, (HKQ.out.trans (Kb.setCell wr ⟨w.heap.size + 1, m, none⟩ v) (fun i hi h => by have h' : i = w.heap.size + 1 := h; omega)).drew⟩
      have HMV := zh hmv; have HQC := zh qc
      obtain ⟨z0, z1, z2, z3, f0, f1, f2, f3⟩ := ws_cells qc
      obtain ⟨t0, t1, t2, t3, _, _, _, _⟩ := ws_cells qt
      clear hmv qa qc qt qp
      rcases (show k = 0 ∨ k = 1 ∨ k = 2 ∨ k = 3 ∨ k = 4 by omega) with rfl | rfl | rfl | rfl | rfl
      ·have z' : wr.cell? ⟨w.heap.size + 1, 0, none⟩ = some (.int .u64 st.a) := z0
       have hor := or64' st.a t.a hok.a htok.a
       have HOR := zh hor
       clear hor z0 z1 t1 f1 z2 t2 f2 z3 t3 f3
       go_wp2_with fail
       go_region
       go_wp2
       rw [HOR.out]
       refine ⟨⟨1, by omega, by go_num, ⟨(HMV.out 0 _).1, ?_, (HMV.out 0 _).2.1, (HMV.out 0 _).2.2.1⟩, (HMV.out 0 _).2.2.2⟩, by decide⟩
       show (wr.setCell ⟨w.heap.size + 1, 0, none⟩ _).heap[w.heap.size + 1]? = _
       rw [set_heap wr _ 0 _ _ _ _ HQC.out]
       rfl
      ·have z' : wr.cell? ⟨w.heap.size + 1, 1, none⟩ = some (.int .u64 st.b) := z1
       have hor := or64' st.b t.b hok.b htok.b
       have HOR := zh hor
       clear hor z1 z0 t0 f0 z2 t2 f2 z3 t3 f3
       go_wp2_with fail
       go_region
       go_wp2
       rw [HOR.out]
       refine ⟨⟨2, by omega, by go_num, ⟨(HMV.out 1 _).1, ?_, (HMV.out 1 _).2.1, (HMV.out 1 _).2.2.1⟩, (HMV.out 1 _).2.2.2⟩, by decide⟩
       show (wr.setCell ⟨w.heap.size + 1, 1, none⟩ _).heap[w.heap.size + 1]? = _
       rw [set_heap wr _ 1 _ _ _ _ HQC.out]
       rfl
      ·have z' : wr.cell? ⟨w.heap.size + 1, 2, none⟩ = some (.int .u64 st.c) := z2
       have hor := or64' st.c t.c hok.c htok.c
       have HOR := zh hor
       clear hor z2 z0 t0 f0 z1 t1 f1 z3 t3 f3
       go_wp2_with fail
       go_region
       go_wp2
       rw [HOR.out]
       refine ⟨⟨3, by omega, by go_num, ⟨(HMV.out 2 _).1, ?_, (HMV.out 2 _).2.1, (HMV.out 2 _).2.2.1⟩, (HMV.out 2 _).2.2.2⟩, by decide⟩
       show (wr.setCell ⟨w.heap.size + 1, 2, none⟩ _).heap[w.heap.size + 1]? = _
       rw [set_heap wr _ 2 _ _ _ _ HQC.out]
       rfl
      ·have z' : wr.cell? ⟨w.heap.size + 1, 3, none⟩ = some (.int .u64 st.d) := z3
       have hor := or64' st.d t.d hok.d htok.d
       have HOR := zh hor
       clear hor z3 z0 t0 f0 z1 t1 f1 z2 t2 f2
       go_wp2_with fail
       go_region
       go_wp2
       rw [HOR.out]
       refine ⟨⟨4, by omega, by go_num, ⟨(HMV.out 3 _).1, ?_, (HMV.out 3 _).2.1, (HMV.out 3 _).2.2.1⟩, (HMV.out 3 _).2.2.2⟩, by decide⟩
       show (wr.setCell ⟨w.heap.size + 1, 3, none⟩ _).heap[w.heap.size + 1]? = _
       rw [set_heap wr _ 3 _ _ _ _ HQC.out]
       rfl
      ·clear z0 z1 z2 z3 t0 t1 t2 t3 f0 f1 f2 f3
       go_wp2_with fail
       go_roundg gk
       case measure => omega
       case rel =>
        obtain ⟨qa, qc, qt, qp⟩ := HQ.out
        exact ⟨st.un t, j, hj, HC0.out.symm, by omega, hok.un htok, qp, qa, qc, HKQ.out⟩
    ·obtain ⟨z0, z1, z2, z3, _, _, _, _⟩ := ws_cells hC3
     obtain ⟨y0, y1, y2, y3, g0, g1, g2, g3⟩ := ws_cells hA3
     have hcf : classF s.data.toList i = none := by
      rw [HCL.out, HH.out.1, hr]; cases tn <;> rfl
     have HCF := zh hcf
     have hA4 : (w3.alloc (.cells #[.int .u64 t.a, .int .u64 t.b, .int .u64 t.c, .int .u64 t.d] 100)).heap[w.heap.size]? = some (.cells ws0.cells 100 (0, 0)) := (Below.heap_alloc _ _ _ (by omega)).trans hA3
     obtain ⟨v0, v1, v2, v3, k0, k1, k2, k3⟩ := ws_cells hA4
     clear y0 y1 y2 y3 g0 g1 g2 g3
     have HA4 := zh hA4
     have HP4 := zh (hp.below ((Below.refl _ w3).alloc (Nat.le_refl _) (.cells #[.int .u64 t.a, .int .u64 t.b, .int .u64 t.c, .int .u64 t.d] 100)))
     have HK4 := zh (HK3.out.trans (Kb.of_below (fun j => j = P) ((Below.refl _ w3).alloc (Nat.le_refl _) (.cells #[.int .u64 t.a, .int .u64 t.b, .int .u64 t.c, .int .u64 t.d] 100))) (fun _ _ h => h))
     clear hA3 hC3 hA4 hp hr hcf
     go_wp2_with fail
     (try simp only [Exit.inBlock, Exit.then])
     refine bodyPost_ret (results_ws rfl _ _ w.heap.size st (0, 0) rfl (set4 HA4.out)) rfl ?_
     exact ⟨HK4.out.trans (set4_kb _ w.heap.size st) (fun i hi h => by omega), .inr ⟨HCF.out, st, rfl, j, hj, ((set4_kb _ w.heap.size st).block P (lt_of_heap HP4.out) (by omega)).trans HP4.out⟩⟩
end Go.Proofs.YtejdfpieblkapaaGreatDoor

/- Carried from another seat. -/
namespace Go.Proofs.YtejdfpieblkapaaGreatDoor
open Go.RowKit Go.Shelf


def repF (r : Rx) (c : Nat) : Rx := if c = 42 then .star r else if c = 43 then .cat r (.star r) else .or r .empty

theorem row_two (w : World) (a b : Nat) : RowAt (w.alloc (.cells #[ptr a, ptr b] 68)) (some ⟨w.heap.size, 0, none⟩) [a, b] := .inr ⟨w.heap.size, _, _, rfl, heap_alloc_new w _, fun i x hx => by
 rcases i with _ | _ | i
 ·have : a = x := by simpa using hx
  subst this; rfl
 ·have : b = x := by simpa using hx
  subst this; rfl
 ·simp at hx⟩
end Go.Proofs.YtejdfpieblkapaaGreatDoor
