/- What the small functions of package codes answer: isCode, leads, joined. -/
import Derived.Test.YtifehdoindbkmaaDoorProg
import Derived.Test.YtifehdoindbkmaaDoorMath
import Derived.WalkKit
import Derived.WalkSpells
import Derived.WalkLawsBesides
import Derived.BigQuiet
import Derived.Deep.QuietTactic
import Derived.Lib.Hide
import Derived.IntWalk
import Derived.Laws.IdiomStrings
import Derived.Outline
namespace Go.Proofs.YtifehdoindbkmaaDoor
open Go.RowKit

theorem ret_bool {a b : Bool} (h : a = b) : Ending.returned (.bool a) = .returned (.bool b) := by rw [h]
theorem ret_int {k : IntKind} {a b : Int} (h : a = b) : Ending.returned (.int k a) = .returned (.int k b) := by rw [h]

def isCodeB (lo hi n : Int) : Bool := decide (lo ≤ n ∧ n ≤ hi ∧ (n < 55296 ∨ 57343 < n))


set_option maxHeartbeats 400000 in
theorem isCode_any (lo hi mk n : Int) (w : World) :
    Calls Tryd.prog 44 #[.agg #[.int .i64 lo, .int .i64 hi, .int .i64 mk], .int .i64 n] w fun e w' => e = .returned (.bool (isCodeB lo hi n)) ∧ Below w.heap.size w w' := by
  have key : ∀ b, isCodeB lo hi n = b → Calls Tryd.prog 44 #[.agg #[.int .i64 lo, .int .i64 hi, .int .i64 mk], .int .i64 n] w fun e w' => e = .returned (.bool b) ∧ Below w.heap.size w w' := by
    intro b hb
    have HB := Lib.hid hb; clear hb
    go_enter Tryd.func44, Tryd.ntmps44
    go_wp2
    all_goals
      go_ret
      refine ⟨ret_bool ?_, (Below.refl _ _).alloc (Nat.le_refl _) _⟩
      rw [← HB.out]
      unfold isCodeB
      rw [Bool.eq_iff_iff]
      simp
      omega
  exact key _ rfl

def leadsB (mk top f : Int) : Bool := decide (mk ≤ f ∧ f ≤ top)


set_option maxHeartbeats 1000000 in
theorem leads_any (lo hi mk f top : Int) (k : Nat) (w : World) (h : (lo, hi, mk, top, k) ∈ [((0 : Int), (127 : Int), (0 : Int), (127 : Int), 0), (128, 2047, 192, 223, 1), (2048, 65535, 224, 239, 2), (65536, 1114111, 240, 244, 3)]) :
    Calls Tryd.prog 42 #[.agg #[.int .i64 lo, .int .i64 hi, .int .i64 mk], .int .i64 f, .int .i64 k] w fun e w' => e = .returned (.bool (leadsB mk top f)) ∧ Below w.heap.size w w' := by
  have key : ∀ b, leadsB mk top f = b → Calls Tryd.prog 42 #[.agg #[.int .i64 lo, .int .i64 hi, .int .i64 mk], .int .i64 f, .int .i64 k] w fun e w' => e = .returned (.bool b) ∧ Below w.heap.size w w' := by
    intro b hb
    have HB := Lib.hid hb; clear hb
    have hd : decide (mk ≤ f) = true ∨ decide (mk ≤ f) = false := by cases decide (mk ≤ f) <;> simp
    simp only [List.mem_cons, Prod.mk.injEq, List.not_mem_nil, or_false] at h
    rcases h with ⟨rfl, rfl, rfl, rfl, rfl⟩ | ⟨rfl, rfl, rfl, rfl, rfl⟩ | ⟨rfl, rfl, rfl, rfl, rfl⟩ | ⟨rfl, rfl, rfl, rfl, rfl⟩
    all_goals
      rcases hd with hd | hd
      all_goals
        go_enter Tryd.func42, Tryd.ntmps42
        go_wp2
        go_quiet (fail)
        go_wp2
        go_ret
        refine ⟨ret_bool ?_, below_drewN ((Below.refl _ _).alloc (Nat.le_refl _) _) _⟩
        rw [← HB.out]
        unfold leadsB
        simp at hd
        rw [Bool.eq_iff_iff]
        simp
        try omega
  exact key _ rfl

/-- What joined answers: the number, or -1. -/
def jnI (n : Nat) (l : List UInt8) (k : Nat) : Int := match (if l.length < k then none else jn n (l.take k)) with | some m => (m : Int) | none => -1
theorem jnI_some {n k m : Nat} {l : List UInt8} (h1 : ¬ l.length < k) (h2 : jn n (l.take k) = some m) : jnI n l k = m := by unfold jnI; rw [if_neg h1, h2]
theorem jnI_none {n k : Nat} {l : List UInt8} (h1 : ¬ l.length < k) (h2 : jn n (l.take k) = none) : jnI n l k = -1 := by unfold jnI; rw [if_neg h1, h2]

/-- '[]byte(s)': a new block with just these bytes. -/
theorem conv_bytes (s : ByteArray) (w : World) (hs : s.size ≤ 1099511627776) : ∃ cp w1, (convert 9 69 (.string s)).run Tryd.prog w = .ok (.slice (some ⟨w.heap.size, 0, none⟩) s.size cp) w1 ∧ s.size ≤ cp ∧ cp ≤ 9223372036854775807 ∧ Below w.heap.size w w1 ∧
    ∀ (i : Nat) (b : UInt8), s.data.toList[i]? = some b → w1.cell? ⟨w.heap.size, i, none⟩ = some (.int .u8 b.toNat) := by
  refine ⟨_, _, run_bytes_of_string w 9 69 5 s Tryd.underlying9 Tryd.underlying69 Tryd.underlying5, grownCap_ge _ _ _ _, ?_, (Below.refl _ w).drew.alloc (Nat.le_refl _) _, ?_⟩
  · have := grownCap_le_maxLen w s.size 0 5 (by unfold maxLen; omega); unfold maxLen at this; omega
  · intro i b hb
    obtain ⟨hlt, hget⟩ := List.getElem?_eq_some_iff.1 hb
    have hlt' : i < s.data.size := by simpa using hlt
    have h1 := bytesRow_at s (grownCap w s.size 0 5) i hlt'
    simp at hget
    rw [hget] at h1
    rw [← h1]
    have hk : (w.drew.alloc (.cells (bytesRow s (grownCap w s.size 0 5)) 5 ((bytesRow s (grownCap w s.size 0 5)).size, (bytesRow s (grownCap w s.size 0 5)).size + 1))).heap[w.heap.size]? = some (.cells (bytesRow s (grownCap w s.size 0 5)) 5 ((bytesRow s (grownCap w s.size 0 5)).size, (bytesRow s (grownCap w s.size 0 5)).size + 1)) := by
      show (w.heap.push _)[w.heap.size]? = _
      simp
    simp only [World.cell?, hk]
    rfl

theorem jn_cons (m : Nat) (c : UInt8) (r : List UInt8) (h : 128 ≤ c.toNat) (h' : c.toNat ≤ 191) : jn m (c :: r) = jn (m * 64 + (c.toNat - 128)) r := by simp [jn, h, h']
theorem jn_cons_no (m : Nat) (c : UInt8) (r : List UInt8) (h : c.toNat < 128 ∨ 191 < c.toNat) : jn m (c :: r) = none := by simp [jn]; omega

/-- How great the number can be behind i bytes. -/
def jnB (i m : Nat) : Prop := (i = 0 → m ≤ 31) ∧ (i = 1 → m ≤ 2047) ∧ (i = 2 → m ≤ 131071)

set_option maxRecDepth 100000 in
set_option maxHeartbeats 1000000 in
theorem joined_any (n : Nat) (rest : ByteArray) (k : Nat) (w : World) (hk : k ≤ 3) (hn : k = 0 ∨ n ≤ 31) (hs : rest.size ≤ 1099511627776) :
    Calls Tryd.prog 43 #[.int .i64 n, .string rest, .int .i64 k] w fun e w' => e = .returned (.int .i64 (jnI n rest.data.toList k)) ∧ Below w.heap.size w w' := by
  by_cases h : rest.size < k
  · go_enter Tryd.func43, Tryd.ntmps43
    go_wp2
    go_ret
    refine ⟨ret_int ?_, Below.refl _ _⟩
    unfold jnI
    rw [if_pos (by rw [← Lib.size_eq]; exact h)]
  · have hsz : (rest.extract 0 k).size = k := by rw [Lib.size_eq, Lib.extract_data]; simp; omega
    have hl : ¬ rest.data.toList.length < k := by rw [← Lib.size_eq]; exact h
    obtain ⟨cp, w1, hconv, hc1, hc2, hb, hcell⟩ := conv_bytes (rest.extract 0 k) w (by omega)
    rw [hsz] at hconv hc1
    have hd : (rest.extract 0 k).data.toList = rest.data.toList.take k := by rw [Lib.extract_data]; simp
    rw [hd] at hcell
    have hlen : (rest.data.toList.take k).length = k := by rw [List.length_take]; omega
    obtain ⟨l, hl'⟩ : ∃ l, l = rest.data.toList.take k := ⟨_, rfl⟩
    rw [← hl'] at hcell hlen
    have HJ : Hid (∀ m, jn n l = some m → jnI n rest.data.toList k = m) := fun m hm => jnI_some hl (by rw [← hl']; exact hm)
    have HJ' : Hid (jn n l = none → jnI n rest.data.toList k = -1) := fun hm => jnI_none hl (by rw [← hl']; exact hm)
    have HL := Lib.hid hlen; have HC := Lib.hid hcell
    clear hlen hcell hd hl' hsz hl
    go_enter Tryd.func43, Tryd.ntmps43
    go_wp2_with fail
    go_loop [0, 18] (fun a i => ∃ (j m : Nat), j ≤ k ∧ i = .int .i64 j ∧ a = .int .i64 m ∧ Hid (jn m (l.drop j) = jn n l) ∧ Hid (k = 0 ∨ jnB j m)) (fun _ i => k - (intOf i).toNat)
    case atStart => exact ⟨0, n, Nat.zero_le _, rfl, rfl, rfl, hn.imp id fun hn => ⟨fun _ => hn, fun h => by omega, fun h => by omega⟩⟩
    case round =>
      obtain ⟨j, m, hj, rfl, rfl, HR, HM⟩ := hrel
      by_cases hlt : j < k
      · obtain ⟨c, hc⟩ : ∃ c, l[j]? = some c := ⟨l[j]'(by rw [HL.out]; exact hlt), List.getElem?_eq_getElem _⟩
        have hcl := HC.out j c hc
        have HD := Lib.hid (show l.drop j = c :: l.drop (j + 1) by
          obtain ⟨h1, h2⟩ := List.getElem?_eq_some_iff.1 hc
          rw [← h2]; exact List.drop_eq_getElem_cons h1)
        clear hc
        have hcb : (c.toNat : Int) < 256 := by have := c.toNat_lt; omega
        have hmb : m ≤ 131071 := by have := HM.out; unfold jnB at this; omega
        by_cases h1 : c.toNat < 128
        · go_wp2
          go_ret
          refine ⟨ret_int ?_, hb⟩
          rw [HJ'.out]
          rw [← HR.out, HD.out]; exact jn_cons_no _ _ _ (.inl h1)
        by_cases h2 : 191 < c.toNat
        · go_wp2
          go_ret
          refine ⟨ret_int ?_, hb⟩
          rw [HJ'.out]
          rw [← HR.out, HD.out]; exact jn_cons_no _ _ _ (.inr h2)
        go_wp2
        go_round
        case rel => 
          refine ⟨j + 1, m * 64 + (c.toNat - 128), by omega, by go_num, ?_, ?_, ?_⟩
          · rw [show ((m * 64 + (c.toNat - 128) : Nat) : Int) = (m : Int) * 64 + ((c.toNat : Int) - 128) by omega]
          · show _ = _
            rw [← HR.out, HD.out, jn_cons _ _ _ (by omega) (by omega)]
          · have := HM.out
            unfold jnB at this
            show _ ∨ jnB _ _
            unfold jnB
            omega
        case measure => simp [intOf]; omega
      · go_wp2
        go_ret
        refine ⟨ret_int ?_, hb⟩
        rw [HJ.out m]
        rw [← HR.out, List.drop_of_length_le (by rw [HL.out]; omega)]; rfl
end Go.Proofs.YtifehdoindbkmaaDoor
