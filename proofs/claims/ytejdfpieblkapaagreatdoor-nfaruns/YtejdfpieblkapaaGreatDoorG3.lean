/- Sets of small numbers, as words of bits. -/
import Derived.Test.YtejdfpieblkapaaGreatDoorG1
import Derived.Test.YtejdfpieblkapaaGreatDoorM25
namespace Go.Proofs.YtejdfpieblkapaaGreatDoor
open Go.RowKit Go.Shelf

/-- Is a number in? -/
def bt (ws : List Nat) (p : Nat) : Bool := (ws.getD (p / 64) 0).testBit (p % 64)
abbrev uv (x : Nat) : Value := .int .u64 (x : Int)
/-- A set's block. -/
def BsAt (w : World) (g : Nat) (ws : List Nat) : Prop := w.heap[g]? = some (.cells (ws.map uv).toArray 99 (0, 0)) ∧ ∀ x ∈ ws, x < 2 ^ 64
abbrev bsV (g n : Nat) : Value := .slice (some ⟨g, 0, none⟩) n n
theorem BsAt.keep {w w' : World} {g : Nat} {ws : List Nat} {ex : Nat → Prop} (h : BsAt w g ws) (hk : Kb ex w w') (hx : ¬ ex g) : BsAt w' g ws := ⟨(hk.block g (lt_of_heap h.1) hx).trans h.1, h.2⟩
theorem BsAt.below {w w' : World} {g : Nat} {ws : List Nat} (h : BsAt w g ws) (hk : Below w.heap.size w w') : BsAt w' g ws := ⟨(hk.block g (lt_of_heap h.1)).trans h.1, h.2⟩
theorem BsAt.cell {w : World} {g : Nat} {ws : List Nat} (h : BsAt w g ws) {i : Nat} (hi : i < ws.length) : w.cell? ⟨g, i, none⟩ = some (uv ws[i]) ∧ w.frozen? ⟨g, i, none⟩ = false := by
  refine ⟨?_, Lib.frozen_of_heap h.1 i⟩
  rw [Lib.cell_of_heap h.1]
  simp [hi]
theorem BsAt.set {w : World} {g : Nat} {ws : List Nat} (h : BsAt w g ws) (i x : Nat) (hx : x < 2 ^ 64) : BsAt (w.setCell ⟨g, i, none⟩ (uv x)) g (ws.set i x) := by
  refine ⟨?_, fun y hy => ?_⟩
  · rw [set_heap w g i _ _ _ _ h.1]
    simp
  · rcases List.mem_or_eq_of_mem_set hy with hy | hy
    · exact h.2 y hy
    · rw [hy]; exact hx
theorem bt_add (ws : List Nat) (p q : Nat) (hp : p / 64 < ws.length) : bt (ws.set (p / 64) (ws[p / 64] ||| 2 ^ (p % 64))) q = (bt ws q || decide (q = p)) := by
  unfold bt
  by_cases hq : q / 64 = p / 64
  · rw [hq]
    simp only [List.getD_eq_getElem?_getD, List.getElem?_set_self hp, Option.getD_some, List.getElem?_eq_getElem hp, Nat.testBit_or, Nat.testBit_two_pow]
    congr 1
    refine decide_eq_decide.2 ⟨fun h => by omega, fun h => by omega⟩
  · have : ¬ q = p := fun h => hq (by rw [h])
    simp only [List.getD_eq_getElem?_getD, List.getElem?_set_ne (fun h => hq h.symm)]
    simp [this]
theorem bt_none (n q : Nat) : bt (List.replicate n 0) q = false := by
  unfold bt
  have : (List.replicate n 0).getD (q / 64) 0 = 0 := by
    rw [List.getD_eq_getElem?_getD, List.getElem?_replicate]
    split <;> rfl
  rw [this]; simp
/-- Words joined. -/
def jn (a b : List Nat) : List Nat := List.zipWith (· ||| ·) a b
theorem jn_len (a b : List Nat) (h : a.length = b.length) : (jn a b).length = a.length := by simp [jn, h]
theorem bt_jn (a b : List Nat) (h : a.length = b.length) (q : Nat) : bt (jn a b) q = (bt a q || bt b q) := by
  unfold bt jn
  simp only [List.getD_eq_getElem?_getD, List.getElem?_zipWith]
  rcases Nat.lt_or_ge (q / 64) a.length with hq | hq
  · rw [List.getElem?_eq_getElem hq, List.getElem?_eq_getElem (by omega)]
    simp [Nat.testBit_or]
  · rw [List.getElem?_eq_none hq, List.getElem?_eq_none (by omega)]
    simp
theorem tdiv64 (p : Nat) : Int.tdiv (p : Int) 64 = ((p / 64 : Nat) : Int) := by
  rw [Int.tdiv_eq_ediv_of_nonneg (by omega)]; omega
theorem tmod64 (p : Nat) : Int.tmod (p : Int) 64 = ((p % 64 : Nat) : Int) := by
  rw [Int.tmod_eq_emod_of_nonneg (by omega)]; omega

set_option maxRecDepth 100000 in
set_option maxHeartbeats 1000000 in
/-- Add. -/
theorem bs_add (w : World) (g p n : Nat) (ws : List Nat) (h : BsAt w g ws) (hn : n = ws.length) (hp : p / 64 < ws.length) (hp2 : p < 1000000) :
    Calls Tryz.prog 85 #[bsV g n, .int .i64 p] w fun e w' => e = .returned (.tuple #[]) ∧ BsAt w' g (ws.set (p / 64) (ws[p / 64] ||| 2 ^ (p % 64))) ∧ Kb (fun i => i = g) w w' := by
  obtain ⟨c1, f1⟩ := h.cell hp
  have hW := h.2 _ (List.getElem_mem hp)
  have hpw : 2 ^ (p % 64) < 2 ^ 64 := Nat.pow_lt_pow_right (by omega) (by omega)
  have HS := Lib.hid (h.set (p / 64) (ws[p / 64] ||| 2 ^ (p % 64)) (Nat.or_lt_two_pow hW hpw))
  have hn1 : p / 64 < n := by omega
  generalize hWe : ws[p / 64] = W at c1 hW HS ⊢
  have HW := Lib.hid hW
  clear h hW hWe hp hn
  have d1 := tdiv64 p
  have d2 := tmod64 p
  go_enter Tryz.func85, Tryz.ntmps85
  go_wp2_with fail
  go_region
  go_wp2
  go_end0
  rw [or64 W (p % 64) HW.out (by omega)]
  exact ⟨rfl, HS.out, (Kb.setCell w ⟨g, p / 64, none⟩ _).drew⟩
end Go.Proofs.YtejdfpieblkapaaGreatDoor
