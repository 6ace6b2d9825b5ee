/- What codes.Step answers: the code point that begins at a place. -/
import Derived.Test.YtifehdoindbkmaaDoorA1
import Derived.StillTailTactics
import Derived.Laws.Rows
namespace Go.Proofs.YtifehdoindbkmaaDoor
open Go.RowKit

/-- The bounds of each length: least, most, mark, the greatest first byte, how many bytes behind. -/
def tab : List (Int × Int × Int × Int × Nat) := [((0 : Int), (127 : Int), (0 : Int), (127 : Int), 0), (128, 2047, 192, 223, 1), (2048, 65535, 224, 239, 2), (65536, 1114111, 240, 244, 3)]

/-- The array's cells, one behind the other. -/
def lenC : Array Value := #[.int .i64 0, .int .i64 127, .int .i64 0, .int .i64 128, .int .i64 2047, .int .i64 192, .int .i64 2048, .int .i64 65535, .int .i64 224, .int .i64 65536, .int .i64 1114111, .int .i64 240]

/-- The package-level array lies as its text lays it. -/
def LenT (w : World) : Prop := 0 < w.heap.size ∧ ∃ t fr, w.heap[0]? = some (.cells lenC t fr)

theorem LenT.below {w w' : World} {B : Nat} (h : LenT w) (hb : Below B w w') (hB : 0 < B) : LenT w' := by
  obtain ⟨h0, t, fr, hg⟩ := h
  exact ⟨Nat.lt_of_lt_of_le h0 hb.size, t, fr, (hb.block 0 hB).trans hg⟩

theorem tab_row (j : Nat) (h : j < 4) : ∃ lo hi mk top : Int, (lo, hi, mk, top, j) ∈ tab ∧ ∀ w, (Instr.index 77 (.agg lenC) (.int .i64 j)).run Tryd.prog w = .ok (.agg #[.int .i64 lo, .int .i64 hi, .int .i64 mk]) w := by
  match j, h with
  | 0, _ => exact ⟨_, _, _, _, by unfold tab; simp; exact ⟨rfl, rfl, rfl, rfl⟩, fun _ => by kernel_rfl⟩
  | 1, _ => exact ⟨_, _, _, _, by unfold tab; simp; exact ⟨rfl, rfl, rfl, rfl⟩, fun _ => by kernel_rfl⟩
  | 2, _ => exact ⟨_, _, _, _, by unfold tab; simp; exact ⟨rfl, rfl, rfl, rfl⟩, fun _ => by kernel_rfl⟩
  | 3, _ => exact ⟨_, _, _, _, by unfold tab; simp; exact ⟨rfl, rfl, rfl, rfl⟩, fun _ => by kernel_rfl⟩

theorem jn_lt : ∀ (l : List UInt8) (m n : Nat), jn m l = some n → n < (m + 1) * 64 ^ l.length
  | [], m, n, h => by simp [jn] at h; subst h; simp
  | c :: r, m, n, h => by
    simp only [jn] at h
    split at h
    · have := jn_lt r _ n h
      refine Nat.lt_of_lt_of_le this ?_
      rw [List.length_cons, Nat.pow_succ, Nat.mul_comm (64 ^ r.length) 64, ← Nat.mul_assoc]
      exact Nat.mul_le_mul_right _ (by omega)
    · cases h

theorem stp_lead {lo hi mk top : Int} {k : Nat} {a : UInt8} {r : List UInt8} (h : (lo, hi, mk, top, k) ∈ tab) (hl : leadsB mk top a.toNat = true) :
    stp (a :: r) = if isCodeB lo hi (jnI (a.toNat - mk.toNat) r k) = true then some ((jnI (a.toNat - mk.toNat) r k).toNat, 1 + k) else none := by
  unfold tab at h
  unfold leadsB at hl
  simp only [decide_eq_true_eq] at hl
  simp only [List.mem_cons, Prod.mk.injEq, List.not_mem_nil, or_false] at h
  unfold isCodeB
  rcases h with ⟨rfl, rfl, rfl, rfl, rfl⟩ | ⟨rfl, rfl, rfl, rfl, rfl⟩ | ⟨rfl, rfl, rfl, rfl, rfl⟩ | ⟨rfl, rfl, rfl, rfl, rfl⟩
  · simp only [stp]
    rw [if_pos (by omega), jnI_some (m := a.toNat) (by omega) (by simp [jn]), if_pos (by simp; omega)]
    simp
  · simp only [stp]
    rw [if_neg (by omega), if_neg (by omega), if_pos (by omega)]
    by_cases hr : r.length < 1
    · rw [if_pos hr, if_neg]; unfold jnI; rw [if_pos hr]; simp
    · rw [if_neg hr]
      cases hj : jn (a.toNat - (192 : Int).toNat) (r.take 1) with
      | none => rw [jnI_none hr hj]; simp at hj; simp [hj]
      | some n =>
        have hb := jn_lt _ _ _ hj
        have hlen : (r.take 1).length = 1 := by rw [List.length_take]; omega
        rw [hlen] at hb
        rw [jnI_some hr hj]; simp at hj hb; simp only [hj, Option.bind_some]
        by_cases hn : 128 ≤ n
        · rw [if_pos hn, if_pos (by simp; omega)]; simp
        · rw [if_neg hn, if_neg (by simp; omega)]
  · simp only [stp]
    rw [if_neg (by omega), if_neg (by omega), if_neg (by omega), if_pos (by omega)]
    by_cases hr : r.length < 2
    · rw [if_pos hr, if_neg]; unfold jnI; rw [if_pos hr]; simp
    · rw [if_neg hr]
      cases hj : jn (a.toNat - (224 : Int).toNat) (r.take 2) with
      | none => rw [jnI_none hr hj]; simp at hj; simp [hj]
      | some n =>
        have hb := jn_lt _ _ _ hj
        have hlen : (r.take 2).length = 2 := by rw [List.length_take]; omega
        rw [hlen] at hb
        rw [jnI_some hr hj]; simp at hj hb; simp only [hj, Option.bind_some]
        by_cases hn : 2048 ≤ n ∧ (n < 55296 ∨ 57343 < n)
        · rw [if_pos hn, if_pos (by simp; omega)]; simp
        · rw [if_neg hn, if_neg (by simp; omega)]
  · simp only [stp]
    rw [if_neg (by omega), if_neg (by omega), if_neg (by omega), if_neg (by omega), if_pos (by omega)]
    by_cases hr : r.length < 3
    · rw [if_pos hr, if_neg]; unfold jnI; rw [if_pos hr]; simp
    · rw [if_neg hr]
      cases hj : jn (a.toNat - (240 : Int).toNat) (r.take 3) with
      | none => rw [jnI_none hr hj]; simp at hj; simp [hj]
      | some n =>
        rw [jnI_some hr hj]; simp at hj; simp only [hj, Option.bind_some]
        by_cases hn : 65536 ≤ n ∧ n ≤ 1114111
        · rw [if_pos hn, if_pos (by simp; omega)]; simp
        · rw [if_neg hn, if_neg (by simp; omega)]

/-- None of the first j rows leads. -/
def NoLead (j : Nat) (a : Nat) : Prop := ∀ lo hi mk top k, k < j → (lo, hi, mk, top, k) ∈ tab → leadsB mk top a = false

theorem stp_nolead {a : UInt8} {r : List UInt8} (h : NoLead 4 a.toNat) : stp (a :: r) = none := by
  have h0 := h 0 127 0 127 0 (by omega) (by simp [tab])
  have h1 := h 128 2047 192 223 1 (by omega) (by simp [tab])
  have h2 := h 2048 65535 224 239 2 (by omega) (by simp [tab])
  have h3 := h 65536 1114111 240 244 3 (by omega) (by simp [tab])
  simp only [leadsB, decide_eq_false_iff_not] at h0 h1 h2 h3
  have := a.toNat_lt
  simp only [stp]
  by_cases c1 : a.toNat < 192
  · rw [if_neg (by omega), if_pos c1]
  · rw [if_neg (by omega), if_neg (by omega), if_neg (by omega), if_neg (by omega), if_neg (by omega)]

end Go.Proofs.YtifehdoindbkmaaDoor
