/- What others answers. -/
import Derived.Test.YtejdfpieblkapaaM25
namespace Go.Proofs.Ytejdfpieblkapaa
open Go.RowKit Go.Shelf

def inv64 (x : Nat) : Nat := 18446744073709551615 - x
/-- The first k words turned. -/
def Ws.inv (s : Ws) : Nat → Ws
  | 0 => s
  | 1 => ⟨inv64 s.a, s.b, s.c, s.d⟩
  | 2 => ⟨inv64 s.a, inv64 s.b, s.c, s.d⟩
  | 3 => ⟨inv64 s.a, inv64 s.b, inv64 s.c, s.d⟩
  | _ => ⟨inv64 s.a, inv64 s.b, inv64 s.c, inv64 s.d⟩

theorem xor64 (x : Nat) (hx : x < 2 ^ 64) : bits BinOp.xor IntKind.u64 (if IntKind.u64.signed = true then -1 else IntKind.u64.max) (x : Int) = ((inv64 x : Nat) : Int) := by
  have h0 : (if IntKind.u64.signed = true then -1 else IntKind.u64.max) = (18446744073709551615 : Int) := by decide
  rw [h0]
  have hv : BitVec.ofInt 64 (x : Int) = BitVec.ofNat 64 x := by rw [BitVec.ofInt_natCast]
  have ha : BitVec.ofInt 64 (18446744073709551615 : Int) = BitVec.allOnes 64 := by decide
  show IntKind.u64.wrap ((BitVec.ofInt 64 (18446744073709551615 : Int) ^^^ BitVec.ofInt 64 (x : Int)).toNat : Int) = _
  rw [hv, ha, BitVec.allOnes_xor, BitVec.toNat_not, BitVec.toNat_ofNat, Nat.mod_eq_of_lt hx, IntKind.wrap_u64]
  unfold inv64
  omega
theorem inv_ok {s : Ws} : (s.inv 4).Ok := ⟨by show inv64 s.a < 2 ^ 64; unfold inv64; omega, by show inv64 s.b < 2 ^ 64; unfold inv64; omega, by show inv64 s.c < 2 ^ 64; unfold inv64; omega, by show inv64 s.d < 2 ^ 64; unfold inv64; omega⟩

set_option maxRecDepth 100000 in
set_option maxHeartbeats 2000000 in
theorem others_any (s : Ws) (w : World) (hok : s.Ok) : Calls Try.prog 58 #[wsV s] w fun e w' => e = .returned (wsV (s.inv 4)) ∧ Below w.heap.size w w' := by
  have hia := xor64 s.a hok.a
  have hib := xor64 s.b hok.b
  have hic := xor64 s.c hok.c
  have hid := xor64 s.d hok.d
  have HIA := Lib.hid hia; have HIB := Lib.hid hib; have HIC := Lib.hid hic; have HID := Lib.hid hid
  clear hia hib hic hid
  go_enter Try.func58, Try.ntmps58
  go_wp2_with fail
  go_loopw [4] (fun i wr => ∃ k : Nat, k ≤ 4 ∧ i = .int .i64 k ∧ Hid (Below w.heap.size w wr) ∧ Hid (wr.heap[w.heap.size]? = some (.cells (s.inv k).cells 41 (0, 0))) ∧ Hid (wr.heap[w.heap.size + 1]? = some (.cells (Ws.cells ⟨0, 0, 0, 0⟩) 41 (0, 0)))) (fun i _ => 4 - (intOf i).toNat)
  case atStart =>
    refine ⟨0, by omega, rfl, ((Below.refl _ w).alloc (Nat.le_refl _) _).alloc (by simp) _, ?_, ?_⟩
    · exact (Below.heap_alloc _ _ _ (by simp)).trans (heap_alloc_new w _)
    · exact heap_alloc2_new w _ _
  case round =>
    obtain ⟨k, hk, rfl, HB, HA, HC⟩ := hrel
    have hset : ∀ (j : Nat) (v : Value), Below w.heap.size w (wr.setCell ⟨w.heap.size, j, none⟩ v) ∧ (wr.setCell ⟨w.heap.size, j, none⟩ v).heap[w.heap.size + 1]? = some (.cells (Ws.cells ⟨0, 0, 0, 0⟩) 41 (0, 0)) := fun j v => ⟨HB.out.trans ((Kb.setCell wr ⟨w.heap.size, j, none⟩ v).below HB.out.size (fun i hi => by rw [hi]; exact Nat.le_refl _)), (Below.heap_setCell _ _ _ _ (by show w.heap.size + 1 ≠ w.heap.size; omega)).trans HC.out⟩
    have HS := Lib.hid hset
    clear hset
    rcases (show k = 0 ∨ k = 1 ∨ k = 2 ∨ k = 3 ∨ k = 4 by omega) with rfl | rfl | rfl | rfl | rfl
    · obtain ⟨z0, z1, z2, z3, f0, f1, f2, f3⟩ := ws_cells HA.out
      have z' : wr.cell? ⟨w.heap.size, 0, none⟩ = some (.int .u64 s.a) := z0
      clear z0 z1 z2 z3
      go_wp2
      rw [HIA.out]
      refine ⟨⟨1, by omega, by go_num, (HS.out 0 _).1, ?_, (HS.out 0 _).2⟩, by decide⟩
      show (wr.setCell ⟨w.heap.size, 0, none⟩ _).heap[w.heap.size]? = _
      rw [set_heap wr _ 0 _ _ _ _ HA.out]
      rfl
    · obtain ⟨z0, z1, z2, z3, f0, f1, f2, f3⟩ := ws_cells HA.out
      have z' : wr.cell? ⟨w.heap.size, 1, none⟩ = some (.int .u64 s.b) := z1
      clear z0 z1 z2 z3
      go_wp2
      rw [HIB.out]
      refine ⟨⟨2, by omega, by go_num, (HS.out 1 _).1, ?_, (HS.out 1 _).2⟩, by decide⟩
      show (wr.setCell ⟨w.heap.size, 1, none⟩ _).heap[w.heap.size]? = _
      rw [set_heap wr _ 1 _ _ _ _ HA.out]
      rfl
    · obtain ⟨z0, z1, z2, z3, f0, f1, f2, f3⟩ := ws_cells HA.out
      have z' : wr.cell? ⟨w.heap.size, 2, none⟩ = some (.int .u64 s.c) := z2
      clear z0 z1 z2 z3
      go_wp2
      rw [HIC.out]
      refine ⟨⟨3, by omega, by go_num, (HS.out 2 _).1, ?_, (HS.out 2 _).2⟩, by decide⟩
      show (wr.setCell ⟨w.heap.size, 2, none⟩ _).heap[w.heap.size]? = _
      rw [set_heap wr _ 2 _ _ _ _ HA.out]
      rfl
    · obtain ⟨z0, z1, z2, z3, f0, f1, f2, f3⟩ := ws_cells HA.out
      have z' : wr.cell? ⟨w.heap.size, 3, none⟩ = some (.int .u64 s.d) := z3
      clear z0 z1 z2 z3
      go_wp2
      rw [HID.out]
      refine ⟨⟨4, by omega, by go_num, (HS.out 3 _).1, ?_, (HS.out 3 _).2⟩, by decide⟩
      show (wr.setCell ⟨w.heap.size, 3, none⟩ _).heap[w.heap.size]? = _
      rw [set_heap wr _ 3 _ _ _ _ HA.out]
      rfl
    · obtain ⟨z0, z1, z2, z3, f0, f1, f2, f3⟩ := ws_cells HA.out
      obtain ⟨y0, y1, y2, y3, g0, g1, g2, g3⟩ := ws_cells HC.out
      clear f0 f1 f2 f3
      generalize ht : s.inv 4 = t at HA z0 z1 z2 z3
      have HT := Lib.hid ht
      clear ht
      go_wp2_with fail
      refine bodyPost_ret (results_cell_row rfl _ _ (w.heap.size + 1) 41 t.cells (0, 0) _ rfl (set4 (s := t) HC.out) Try.underlying41 rfl (by kernel_rfl)) rfl ?_
      exact ⟨by rw [HT.out]; rfl, HB.out.trans ((set4_kb wr (w.heap.size + 1) t).below HB.out.size (fun i hi => by rw [hi]; omega))⟩
end Go.Proofs.Ytejdfpieblkapaa
