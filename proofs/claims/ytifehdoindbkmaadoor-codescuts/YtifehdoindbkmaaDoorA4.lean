/- What the document's Right, Bytes and Step (frisketref04) answer. -/
import Derived.Test.YtifehdoindbkmaaDoorA3
namespace Go.Proofs.YtifehdoindbkmaaDoor
open Go.RowKit

set_option maxHeartbeats 400000 in
theorem rright_any (n : Int) (w : World) : Calls Tryd.prog 20 #[.int .i64 n] w fun e w' => e = .returned (.bool (okN n)) ∧ w = w' := by
  have key : ∀ b, okN n = b → Calls Tryd.prog 20 #[.int .i64 n] w fun e w' => e = .returned (.bool b) ∧ w = w' := by
    intro b hb
    have HB := Lib.hid hb; clear hb
    go_enter Tryd.func20, Tryd.ntmps20
    go_wp2
    all_goals
      go_ret
      refine ⟨ret_bool ?_, rfl⟩
      rw [← HB.out]
      unfold okN
      rw [Bool.eq_iff_iff]
      simp
      omega
  exact key _ rfl

def encS (n : Nat) : ByteArray := ⟨(enc n).toArray⟩


theorem conv_back (w : World) (vs : Array Value) (l : List UInt8) (hl : vs.toList = l.map fun b => .int .u8 (b.toNat : Int)) :
    (convert 69 9 (.slice (some ⟨w.heap.size, 0, none⟩) l.length l.length)).run Tryd.prog (w.alloc (.cells vs 5)) = .ok (.string ⟨l.toArray⟩) (w.alloc (.cells vs 5)) := by
  refine run_convert_bytes_back _ 69 9 5 _ _ l Tryd.underlying69 Tryd.underlying5 Tryd.underlying9 (fun j hj => ?_)
  have h1 : vs[j]? = some (.int .u8 (l[j].toNat : Int)) := by
    rw [← Array.getElem?_toList, hl, List.getElem?_map, List.getElem?_eq_getElem hj]; rfl
  have hk : (w.alloc (.cells vs 5)).heap[w.heap.size]? = some (.cells vs 5 (0, 0)) := by
    show (w.heap.push _)[w.heap.size]? = _
    simp
  have e : (⟨w.heap.size, 0, none⟩ : Addr).add j = ⟨w.heap.size, j, none⟩ := by simp [Addr.add]; omega
  rw [e]
  simp only [World.cell?, hk]
  exact h1

theorem ub (z : Int) (n : Nat) (h : (n : Int) = z) (hn : n < 256) : Value.int .u8 ((UInt8.ofNat n).toNat : Int) = .int .u8 z := by
  rw [u8_nat n hn, h]

set_option maxRecDepth 100000 in
set_option maxHeartbeats 1000000 in
theorem rbytes_z (z : Int) (w : World) (h0 : 0 ≤ z) (hn : z ≤ 1114111) : Calls Tryd.prog 21 #[.int .i64 z] w fun e w' => e = .returned (.string (encS z.toNat)) ∧ Below w.heap.size w w' := by
  by_cases h1 : z < 128
  · have hE : enc z.toNat = [UInt8.ofNat (z.toNat)] := by unfold enc; rw [if_pos (by omega)]
    have hc := conv_back w #[.int .u8 (z)] [UInt8.ofNat (z.toNat)] (by simp only [List.map_cons, List.map_nil, ub (z) (z.toNat) (by omega) (by omega)])
    have HR : Hid ((⟨[UInt8.ofNat (z.toNat)].toArray⟩ : ByteArray) = encS z.toNat) := by show _ = _; unfold encS; rw [hE]
    clear hE
    simp only [List.length_cons, List.length_nil, Nat.zero_add] at hc
    generalize (⟨[UInt8.ofNat (z.toNat)].toArray⟩ : ByteArray) = S at *
    go_enter Tryd.func21, Tryd.ntmps21
    go_wp2
    go_ret
    exact ⟨by rw [HR.out]; rfl, (Below.refl _ _).alloc (Nat.le_refl _) _⟩
  by_cases h2 : z < 2048
  · have hE : enc z.toNat = [UInt8.ofNat (192 + z.toNat / 64), UInt8.ofNat (128 + z.toNat % 64)] := by unfold enc; rw [if_neg (by omega), if_pos (by omega)]
    have hc := conv_back w #[.int .u8 (192 + z / 64), .int .u8 (128 + z % 64)] [UInt8.ofNat (192 + z.toNat / 64), UInt8.ofNat (128 + z.toNat % 64)] (by simp only [List.map_cons, List.map_nil, ub (192 + z / 64) (192 + z.toNat / 64) (by omega) (by omega), ub (128 + z % 64) (128 + z.toNat % 64) (by omega) (by omega)])
    have HR : Hid ((⟨[UInt8.ofNat (192 + z.toNat / 64), UInt8.ofNat (128 + z.toNat % 64)].toArray⟩ : ByteArray) = encS z.toNat) := by show _ = _; unfold encS; rw [hE]
    clear hE
    simp only [List.length_cons, List.length_nil, Nat.zero_add, Nat.reduceAdd] at hc
    generalize (⟨[UInt8.ofNat (192 + z.toNat / 64), UInt8.ofNat (128 + z.toNat % 64)].toArray⟩ : ByteArray) = S at *
    go_enter Tryd.func21, Tryd.ntmps21
    go_wp2
    go_ret
    exact ⟨by rw [HR.out]; rfl, (Below.refl _ _).alloc (Nat.le_refl _) _⟩
  by_cases h3 : z < 65536
  · have hE : enc z.toNat = [UInt8.ofNat (224 + z.toNat / 4096), UInt8.ofNat (128 + z.toNat / 64 % 64), UInt8.ofNat (128 + z.toNat % 64)] := by unfold enc; rw [if_neg (by omega), if_neg (by omega), if_pos (by omega)]
    have hc := conv_back w #[.int .u8 (224 + z / 4096), .int .u8 (128 + z / 64 % 64), .int .u8 (128 + z % 64)] [UInt8.ofNat (224 + z.toNat / 4096), UInt8.ofNat (128 + z.toNat / 64 % 64), UInt8.ofNat (128 + z.toNat % 64)] (by simp only [List.map_cons, List.map_nil, ub (224 + z / 4096) (224 + z.toNat / 4096) (by omega) (by omega), ub (128 + z / 64 % 64) (128 + z.toNat / 64 % 64) (by omega) (by omega), ub (128 + z % 64) (128 + z.toNat % 64) (by omega) (by omega)])
    have HR : Hid ((⟨[UInt8.ofNat (224 + z.toNat / 4096), UInt8.ofNat (128 + z.toNat / 64 % 64), UInt8.ofNat (128 + z.toNat % 64)].toArray⟩ : ByteArray) = encS z.toNat) := by show _ = _; unfold encS; rw [hE]
    clear hE
    simp only [List.length_cons, List.length_nil, Nat.zero_add, Nat.reduceAdd] at hc
    generalize (⟨[UInt8.ofNat (224 + z.toNat / 4096), UInt8.ofNat (128 + z.toNat / 64 % 64), UInt8.ofNat (128 + z.toNat % 64)].toArray⟩ : ByteArray) = S at *
    go_enter Tryd.func21, Tryd.ntmps21
    go_wp2
    go_ret
    exact ⟨by rw [HR.out]; rfl, (Below.refl _ _).alloc (Nat.le_refl _) _⟩
  · have hE : enc z.toNat = [UInt8.ofNat (240 + z.toNat / 262144), UInt8.ofNat (128 + z.toNat / 4096 % 64), UInt8.ofNat (128 + z.toNat / 64 % 64), UInt8.ofNat (128 + z.toNat % 64)] := by unfold enc; rw [if_neg (by omega), if_neg (by omega), if_neg (by omega)]
    have hc := conv_back w #[.int .u8 (240 + z / 262144), .int .u8 (128 + z / 4096 % 64), .int .u8 (128 + z / 64 % 64), .int .u8 (128 + z % 64)] [UInt8.ofNat (240 + z.toNat / 262144), UInt8.ofNat (128 + z.toNat / 4096 % 64), UInt8.ofNat (128 + z.toNat / 64 % 64), UInt8.ofNat (128 + z.toNat % 64)] (by simp only [List.map_cons, List.map_nil, ub (240 + z / 262144) (240 + z.toNat / 262144) (by omega) (by omega), ub (128 + z / 4096 % 64) (128 + z.toNat / 4096 % 64) (by omega) (by omega), ub (128 + z / 64 % 64) (128 + z.toNat / 64 % 64) (by omega) (by omega), ub (128 + z % 64) (128 + z.toNat % 64) (by omega) (by omega)])
    have HR : Hid ((⟨[UInt8.ofNat (240 + z.toNat / 262144), UInt8.ofNat (128 + z.toNat / 4096 % 64), UInt8.ofNat (128 + z.toNat / 64 % 64), UInt8.ofNat (128 + z.toNat % 64)].toArray⟩ : ByteArray) = encS z.toNat) := by show _ = _; unfold encS; rw [hE]
    clear hE
    simp only [List.length_cons, List.length_nil, Nat.zero_add, Nat.reduceAdd] at hc
    generalize (⟨[UInt8.ofNat (240 + z.toNat / 262144), UInt8.ofNat (128 + z.toNat / 4096 % 64), UInt8.ofNat (128 + z.toNat / 64 % 64), UInt8.ofNat (128 + z.toNat % 64)].toArray⟩ : ByteArray) = S at *
    go_enter Tryd.func21, Tryd.ntmps21
    go_wp2
    go_ret
    exact ⟨by rw [HR.out]; rfl, (Below.refl _ _).alloc (Nat.le_refl _) _⟩

end Go.Proofs.YtifehdoindbkmaaDoor
