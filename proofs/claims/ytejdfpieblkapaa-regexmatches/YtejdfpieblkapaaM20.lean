/- What between answers. -/
import Derived.Test.YtejdfpieblkapaaM19
namespace Go.Proofs.Ytejdfpieblkapaa
open Go.RowKit

def Ws.cells (s : Ws) : Array Value := #[.int .u64 s.a, .int .u64 s.b, .int .u64 s.c, .int .u64 s.d]

structure Ws.Ok (s : Ws) : Prop where
  a : s.a < 2 ^ 64
  b : s.b < 2 ^ 64
  c : s.c < 2 ^ 64
  d : s.d < 2 ^ 64
theorem Ws.Ok.word {s : Ws} (h : s.Ok) (n : Nat) : s.word n < 2 ^ 64 := by
  rcases n with _ | _ | _ | n
  · exact h.a
  · exact h.b
  · exact h.c
  · exact h.d
theorem Ws.Ok.bit {s : Ws} (h : s.Ok) (n : Nat) : (s.bit n).Ok := by
  have hp : 2 ^ (n % 64) < 2 ^ 64 := Nat.pow_lt_pow_right (by omega) (by omega)
  unfold Ws.bit
  split
  · exact ⟨Nat.or_lt_two_pow h.a hp, h.b, h.c, h.d⟩
  · exact ⟨h.a, Nat.or_lt_two_pow h.b hp, h.c, h.d⟩
  · exact ⟨h.a, h.b, Nat.or_lt_two_pow h.c hp, h.d⟩
  · exact ⟨h.a, h.b, h.c, Nat.or_lt_two_pow h.d hp⟩
theorem btw_ok (f k : Nat) : (btw f k).Ok := by
  induction k with
  | zero => exact (show (⟨0, 0, 0, 0⟩ : Ws).Ok from ⟨by decide, by decide, by decide, by decide⟩)
  | succ k ih => exact ih.bit _
theorem or64 (x k : Nat) (hx : x < 2 ^ 64) (hk : k < 64) : bits .or .u64 (x : Int) (IntKind.u64.wrap ((2 : Int) ^ k)) = ((x ||| 2 ^ k : Nat) : Int) := by
  have hp : 2 ^ k < 2 ^ 64 := Nat.pow_lt_pow_right (by omega) hk
  have h2 : ((2 : Int) ^ k) = ((2 ^ k : Nat) : Int) := by norm_cast
  have hw : ∀ y : Nat, y < 2 ^ 64 → IntKind.u64.wrap (y : Int) = (y : Int) := fun y hy => by
    rw [IntKind.wrap_u64]; omega
  rw [h2, hw _ hp]
  have hv : ∀ y : Nat, y < 2 ^ 64 → (BitVec.ofInt 64 (y : Int)).toNat = y := fun y hy => by
    rw [BitVec.ofInt_natCast, BitVec.toNat_ofNat]; exact Nat.mod_eq_of_lt hy
  show IntKind.u64.wrap ((BitVec.ofInt 64 (x : Int) ||| BitVec.ofInt 64 ((2 ^ k : Nat) : Int)).toNat : Int) = _
  rw [BitVec.toNat_or, hv x hx, hv _ hp]
  exact hw _ (Nat.or_lt_two_pow hx hp)

set_option maxRecDepth 100000 in
set_option maxHeartbeats 2000000 in
theorem between_any (f l : Nat) (w : World) (hf : f < 256) (hl : l < 256) :
    Calls Try.prog 35 #[.int .u8 f, .int .u8 l] w fun e w' => e = .returned (wsV (btw f (l + 1 - f))) ∧ Below w.heap.size w w' := by
  go_enter Try.func35, Try.ntmps35
  go_wp2_with fail
  go_loopw [6] (fun i wr => ∃ k : Nat, f + k ≤ 256 ∧ (k = 0 ∨ f + k ≤ l + 1) ∧ i = .int .i64 ((f + k : Nat) : Int) ∧ Hid (Below w.heap.size w wr) ∧ Hid (wr.heap[w.heap.size]? = some (.cells (Ws.cells ⟨0, 0, 0, 0⟩) 41 (0, 0))) ∧ Hid (wr.heap[w.heap.size + 1]? = some (.cells (btw f k).cells 41 (0, 0)))) (fun i _ => (256 - intOf i).toNat)
  case atStart =>
    refine ⟨0, by omega, .inl rfl, rfl, ((Below.refl _ w).alloc (Nat.le_refl _) _).alloc (by simp) _, ?_, ?_⟩
    · exact (Below.heap_alloc _ _ _ (by simp)).trans (heap_alloc_new w _)
    · have := heap_alloc_new (w.alloc (.cells #[.int .u64 0, .int .u64 0, .int .u64 0, .int .u64 0] 41)) (.cells #[.int .u64 0, .int .u64 0, .int .u64 0, .int .u64 0] 41)
      rw [show (w.alloc (.cells #[.int .u64 0, .int .u64 0, .int .u64 0, .int .u64 0] 41)).heap.size = w.heap.size + 1 by simp] at this
      exact this
  case round =>
    obtain ⟨k, hk, hk2, rfl, HB, HA, HC⟩ := hrel
    obtain ⟨n, hn⟩ : ∃ n, n = f + k := ⟨_, rfl⟩
    rw [← hn]
    by_cases hlt : n ≤ l
    · have hni : (n : Int) ≤ l := by omega
      have hn256 : n < 256 := by omega
      generalize hs : btw f k = s at HC
      have f1 : wr.frozen? ⟨w.heap.size + 1, n / 64, none⟩ = false := Lib.frozen_of_heap HC.out (n / 64)
      have HS := Lib.hid hs; have HN := Lib.hid hn
      clear hs hn
      have c1 : wr.cell? ⟨w.heap.size + 1, n / 64, none⟩ = some (.int .u64 (s.word (n / 64))) := by
        rw [Lib.cell_of_heap HC.out]
        rcases (show n / 64 = 0 ∨ n / 64 = 1 ∨ n / 64 = 2 ∨ n / 64 = 3 by omega) with h | h | h | h <;> rw [h] <;> rfl
      generalize hW : s.word (n / 64) = W at c1
      have HW := Lib.hid hW
      clear hW
      go_wp2_with fail
      go_region
      go_wp2
      have hok := btw_ok f k
      rw [HS.out] at hok
      have hWl : W < 2 ^ 64 := by rw [← HW.out]; exact hok.word _
      rw [or64 W (n % 64) hWl (by omega)]
      refine ⟨⟨k + 1, by have := HN.out; omega, .inr (by have := HN.out; omega), by have := HN.out; simp; omega, ?_, ?_, ?_⟩, by simp [intOf]; omega⟩
      · exact (HB.out.trans ((Kb.setCell wr ⟨w.heap.size + 1, n / 64, none⟩ _).below HB.out.size (fun i hi => by rw [hi]; show w.heap.size ≤ w.heap.size + 1; omega))).drew
      · show (wr.setCell ⟨w.heap.size + 1, n / 64, none⟩ _).heap[w.heap.size]? = _
        rw [Below.heap_setCell _ _ _ _ (by show w.heap.size ≠ w.heap.size + 1; omega)]
        exact HA.out
      · show (wr.setCell ⟨w.heap.size + 1, n / 64, none⟩ _).heap[w.heap.size + 1]? = _
        rw [set_heap wr _ (n / 64) _ _ _ _ HC.out]
        show _ = some (Obj.cells ((btw f k).bit (f + k)).cells 41 (0, 0))
        rw [HS.out, ← HN.out]
        have h64 : n / 64 = 0 ∨ n / 64 = 1 ∨ n / 64 = 2 ∨ n / 64 = 3 := by omega
        have hw := HW.out
        rcases h64 with h | h | h | h <;> rw [h] at hw <;> simp only [Ws.bit, h, Ws.cells, ← hw, Ws.word] <;> rfl
    · have hni : ¬ (n : Int) ≤ l := by omega
      have hkk : k = l + 1 - f := by omega
      generalize hs : btw f k = s at HC
      have HS := Lib.hid hs; have HKK := Lib.hid hkk
      have c0 : wr.cell? ⟨w.heap.size + 1, 0, none⟩ = some (.int .u64 s.a) := by rw [Lib.cell_of_heap HC.out]; rfl
      have c1 : wr.cell? ⟨w.heap.size + 1, 1, none⟩ = some (.int .u64 s.b) := by rw [Lib.cell_of_heap HC.out]; rfl
      have c2 : wr.cell? ⟨w.heap.size + 1, 2, none⟩ = some (.int .u64 s.c) := by rw [Lib.cell_of_heap HC.out]; rfl
      have c3 : wr.cell? ⟨w.heap.size + 1, 3, none⟩ = some (.int .u64 s.d) := by rw [Lib.cell_of_heap HC.out]; rfl
      have z0 : wr.cell? ⟨w.heap.size, 0, none⟩ = some (.int .u64 0) := by rw [Lib.cell_of_heap HA.out]; rfl
      have z1 : wr.cell? ⟨w.heap.size, 1, none⟩ = some (.int .u64 0) := by rw [Lib.cell_of_heap HA.out]; rfl
      have z2 : wr.cell? ⟨w.heap.size, 2, none⟩ = some (.int .u64 0) := by rw [Lib.cell_of_heap HA.out]; rfl
      have z3 : wr.cell? ⟨w.heap.size, 3, none⟩ = some (.int .u64 0) := by rw [Lib.cell_of_heap HA.out]; rfl
      have f0 : wr.frozen? ⟨w.heap.size, 0, none⟩ = false := Lib.frozen_of_heap HA.out 0
      have f1 : wr.frozen? ⟨w.heap.size, 1, none⟩ = false := Lib.frozen_of_heap HA.out 1
      have f2 : wr.frozen? ⟨w.heap.size, 2, none⟩ = false := Lib.frozen_of_heap HA.out 2
      have f3 : wr.frozen? ⟨w.heap.size, 3, none⟩ = false := Lib.frozen_of_heap HA.out 3
      clear hn hkk hk hk2 hlt hs
      go_wp2_with fail
      have hh : ((((wr.setCell ⟨w.heap.size, 0, none⟩ (.int .u64 s.a)).setCell ⟨w.heap.size, 1, none⟩ (.int .u64 s.b)).setCell ⟨w.heap.size, 2, none⟩ (.int .u64 s.c)).setCell ⟨w.heap.size, 3, none⟩ (.int .u64 s.d)).heap[w.heap.size]? = some (.cells s.cells 41 (0, 0)) := by
        rw [set_heap _ _ 3 _ _ _ _ (set_heap _ _ 2 _ _ _ _ (set_heap _ _ 1 _ _ _ _ (set_heap _ _ 0 _ _ _ _ HA.out)))]
        rfl
      refine bodyPost_ret (results_cell_row rfl _ _ w.heap.size 41 s.cells (0, 0) _ rfl hh Try.underlying41 rfl (by kernel_rfl)) rfl ?_
      refine ⟨by rw [← HKK.out, HS.out]; rfl, ?_⟩
      have hk : ∀ (w0 : World) (j : Nat) (v : Value), Below w.heap.size w w0 → Below w.heap.size w (w0.setCell ⟨w.heap.size, j, none⟩ v) := fun w0 j v h => h.trans ((Kb.setCell w0 ⟨w.heap.size, j, none⟩ v).below h.size (fun i hi => by rw [hi]; exact Nat.le_refl _))
      exact hk _ _ _ (hk _ _ _ (hk _ _ _ (hk _ _ _ HB.out)))
end Go.Proofs.Ytejdfpieblkapaa
