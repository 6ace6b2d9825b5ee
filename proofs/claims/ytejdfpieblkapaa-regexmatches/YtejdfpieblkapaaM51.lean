/- The document's own reader: a byte among some, a digit, a byte that is seen. -/
import Derived.Test.YtejdfpieblkapaaM32
namespace Go.Proofs.Ytejdfpieblkapaa
open Go.RowKit Go.Shelf

/-- The document's text that is read. -/
def TxB (w : World) (X : Nat) (s : ByteArray) (i : Nat) (d : Int) (bad great : Bool) : Prop := w.heap[X]? = some (.cells #[.string s, .int .i64 i, .int .i64 d, .bool bad, .bool great] 61 (0, 0))
theorem tx_cells {w : World} {X : Nat} {s : ByteArray} {i : Nat} {d : Int} {bad great : Bool} (h : TxB w X s i d bad great) : w.cell? ⟨X, 0, none⟩ = some (.string s) ∧ w.cell? ⟨X, 1, none⟩ = some (.int .i64 i) ∧ w.cell? ⟨X, 2, none⟩ = some (.int .i64 d) ∧ w.cell? ⟨X, 3, none⟩ = some (.bool bad) ∧ w.cell? ⟨X, 4, none⟩ = some (.bool great) ∧ ∀ c, w.frozen? ⟨X, c, none⟩ = false := by
  unfold TxB at h
  exact ⟨by rw [Lib.cell_of_heap h]; rfl, by rw [Lib.cell_of_heap h]; rfl, by rw [Lib.cell_of_heap h]; rfl, by rw [Lib.cell_of_heap h]; rfl, by rw [Lib.cell_of_heap h]; rfl, fun c => Lib.frozen_of_heap h c⟩
theorem TxB.below {w w' : World} {X : Nat} {s : ByteArray} {i : Nat} {d : Int} {bad great : Bool} (h : TxB w X s i d bad great) (hb : Below w.heap.size w w') : TxB w' X s i d bad great := (hb.block X (lt_of_heap h)).trans h
theorem TxB.at' {w : World} {X : Nat} {s : ByteArray} {i : Nat} {d : Int} {bad great : Bool} (h : TxB w X s i d bad great) (j : Nat) : TxB (w.setCell ⟨X, 1, none⟩ (.int .i64 j)) X s j d bad great := by
  unfold TxB at *
  rw [set_heap w X 1 _ _ _ _ h]; rfl
theorem TxB.bad' {w : World} {X : Nat} {s : ByteArray} {i : Nat} {d : Int} {bad great : Bool} (h : TxB w X s i d bad great) (b : Bool) : TxB (w.setCell ⟨X, 3, none⟩ (.bool b)) X s i d b great := by
  unfold TxB at *
  rw [set_heap w X 3 _ _ _ _ h]; rfl

theorem indexByte_mem (l : List UInt8) (c : UInt8) : 0 ≤ Lib.indexByte l c ↔ c ∈ l := by
  induction l with
  | nil => simp [Lib.indexByte]
  | cons b l ih =>
    have hr := (indexByte_range l c).1
    simp only [Lib.indexByte]
    by_cases h : b = c
    · subst h; simp
    · have h1 : (b == c) = false := by simpa using h
      rw [h1]
      by_cases h2 : Lib.indexByte l c = -1
      · rw [h2] at ih ⊢
        have : c ∉ l := fun hm => by have := ih.2 hm; omega
        simp [this, Ne.symm h]
      · have h3 : (Lib.indexByte l c == -1) = false := by simpa using h2
        rw [h3]
        have : c ∈ l := ih.1 (by omega)
        simp [this]; omega
theorem inS_mem (sp : ByteArray) (c : Nat) : inS sp c = decide (c.toUInt8 ∈ sp.data.toList) := by
  unfold inS
  rw [Bool.eq_iff_iff, decide_eq_true_iff, decide_eq_true_iff, indexByte_mem]
set_option maxRecDepth 100000 in
set_option maxHeartbeats 1000000 in
theorem in_any (sp : ByteArray) (c : Nat) (w : World) (hc : c < 256) (hs : sp.size ≤ 1000) : Calls Try.prog 64 #[.string sp, .int .u8 c] w fun e w' => e = .returned (.bool (inS sp c)) ∧ w' = w := by
  have hlen : sp.data.toList.length = sp.size := by rw [← Lib.size_eq]
  rw [inS_mem]
  obtain ⟨L, hL⟩ : ∃ L, L = sp.data.toList := ⟨_, rfl⟩
  rw [← hL] at hlen ⊢
  have HL := Lib.hid hL; have HLen := Lib.hid hlen
  have hgen : ∀ k, k < sp.size → ∃ x : UInt8, L[k]? = some x ∧ ∀ h : k < sp.size, (sp[k]'h) = x := fun k hk => by
    refine ⟨sp[k], ?_, fun _ => rfl⟩
    rw [hL, List.getElem?_eq_getElem (by rw [← Lib.size_eq]; exact hk)]
    simp; rfl
  have HG := Lib.hid hgen
  clear hL hlen hgen
  go_enter Try.func64, Try.ntmps64
  go_wp2_with fail
  go_loopw [5] (fun a wr => ∃ k : Nat, k ≤ sp.size ∧ a = .int .i64 k ∧ Hid (c.toUInt8 ∉ L.take k) ∧ wr = w) (fun a _ => sp.size - (intOf a).toNat)
  case atStart => exact ⟨0, Nat.zero_le _, rfl, (show c.toUInt8 ∉ L.take 0 by simp), rfl⟩
  case round =>
    obtain ⟨k, hk, rfl, HN, rfl⟩ := hrel
    by_cases hlt : k < sp.size
    · obtain ⟨x, hx, hx2⟩ := HG.out k hlt
      have hki : (k : Int) < sp.size := by omega
      have hk0 : (0 : Int) ≤ k := by omega
      have hxe := hx2 hlt
      by_cases hxc : x.toNat = c
      · have hmem : c.toUInt8 ∈ L := by
          have : x = c.toUInt8 := by rw [← hxc]; simp
          rw [← this]; exact List.mem_of_getElem? hx
        have HM := Lib.hid hmem
        have hb : ((x.toNat : Nat) : Int) = (c : Int) := by omega
        clear hx hx2 hmem
        go_wp2
        go_ret
        exact ⟨by rw [decide_eq_true HM.out]; rfl, rfl⟩
      · have hb : ((x.toNat : Nat) : Int) ≠ (c : Int) := by omega
        have hnm : c.toUInt8 ∉ L.take (k + 1) := by
          rw [List.take_add_one, hx]
          intro hm
          rcases List.mem_append.1 hm with h | h
          · exact HN.out h
          · have h' : c.toUInt8 = x := by simpa using h
            apply hxc
            rw [← h', UInt8.toNat_ofNat']
            exact Nat.mod_eq_of_lt hc
        have HM := Lib.hid hnm
        clear hx hx2 hnm
        go_wp2
        go_roundw
        case rel => exact ⟨k + 1, by omega, by go_num, HM.out, by first | rfl | trivial⟩
        case measure => simp [intOf]; omega
    · obtain rfl : k = sp.size := by omega
      have hnm : c.toUInt8 ∉ L := by
        have := HN.out
        rwa [List.take_of_length_le (by rw [HLen.out]; exact Nat.le_refl _)] at this
      have HM := Lib.hid hnm
      clear hnm
      go_wp2
      go_ret
      exact ⟨by rw [decide_eq_false HM.out]; rfl, rfl⟩

def hexI (c : Nat) : Int := if 48 ≤ c ∧ c ≤ 57 then (c : Int) - 48 else if 97 ≤ c ∧ c ≤ 102 then (c : Int) - 87 else -1
theorem hexI_all : ∀ c, c < 256 → Lib.indexByte HX.data.toList c.toUInt8 = hexI c := by
  have h : (List.range 256).all (fun c => decide (Lib.indexByte HX.data.toList c.toUInt8 = hexI c)) = true := by kernel_rfl
  intro c hc
  have := List.all_eq_true.1 h c (List.mem_range.2 hc)
  exact of_decide_eq_true this
set_option maxHeartbeats 1000000 in
theorem hexr_any (c : Nat) (w : World) (hc : c < 256) : Calls Try.prog 72 #[.int .u8 c] w fun e w' => e = .returned (.int .i64 (Lib.indexByte HX.data.toList c.toUInt8)) ∧ w' = w := by
  rw [hexI_all c hc]
  unfold hexI
  by_cases h1 : 48 ≤ c
  · have h1i : (48 : Int) ≤ (c : Int) := by omega
    by_cases h2 : c ≤ 57
    · have h2i : (c : Int) ≤ 57 := by omega
      rw [if_pos ⟨h1, h2⟩]
      have p1 : IntKind.u8.wrap ((c : Int) - 48) = (c : Int) - 48 := by rw [IntKind.wrap_u8]; omega
      have p2 : IntKind.i64.wrap ((c : Int) - 48) = (c : Int) - 48 := IntWalk.i64_in _ (by omega)
      go_enter Try.func72, Try.ntmps72
      go_wp2
      go_ret
      exact ⟨rfl, rfl⟩
    · have h2i : ¬ (c : Int) ≤ 57 := by omega
      rw [if_neg (fun h => h2 h.2)]
      by_cases h3 : 97 ≤ c
      · have h3i : (97 : Int) ≤ (c : Int) := by omega
        by_cases h4 : c ≤ 102
        · have h4i : (c : Int) ≤ 102 := by omega
          rw [if_pos ⟨h3, h4⟩]
          have p1 : IntKind.u8.wrap ((c : Int) - 97) = (c : Int) - 97 := by rw [IntKind.wrap_u8]; omega
          have p2 : IntKind.i64.wrap ((c : Int) - 97) = (c : Int) - 97 := IntWalk.i64_in _ (by omega)
          have p3 : IntKind.i64.wrap ((c : Int) - 97 + 10) = (c : Int) - 87 := by rw [IntWalk.i64_in _ (by omega)]; omega
          go_enter Try.func72, Try.ntmps72
          go_wp2
          go_ret
          exact ⟨rfl, rfl⟩
        · have h4i : ¬ (c : Int) ≤ 102 := by omega
          rw [if_neg (fun h => h4 h.2)]
          go_enter Try.func72, Try.ntmps72
          go_wp2
          go_ret
          exact ⟨rfl, rfl⟩
      · have h3i : ¬ (97 : Int) ≤ (c : Int) := by omega
        rw [if_neg (fun h => h3 h.1)]
        go_enter Try.func72, Try.ntmps72
        go_wp2
        go_ret
        exact ⟨rfl, rfl⟩
  · have h1i : ¬ (48 : Int) ≤ (c : Int) := by omega
    have h3i : ¬ (97 : Int) ≤ (c : Int) := by omega
    rw [if_neg (fun h => h1 h.1), if_neg (fun h => by omega)]
    go_enter Try.func72, Try.ntmps72
    go_wp2
    go_ret
    exact ⟨rfl, rfl⟩

set_option maxHeartbeats 1000000 in
theorem sees_any (w : World) (X : Nat) (s : ByteArray) (i c : Nat) (d : Int) (bad great : Bool) (h : TxB w X s i d bad great) (hi : i ≤ s.size) (hs : s.size ≤ 1000000) (hc : 0 < c) :
    Calls Try.prog 47 #[ptr X, .int .u8 c] w fun e w' => e = .returned (.bool (decide (nx s.data.toList i = c))) ∧ TxB w' X s i d bad great ∧ Below w.heap.size w w' := by
  obtain ⟨c0, c1, _, _, _, _⟩ := tx_cells h
  have HH := Lib.hid h
  clear h
  by_cases hlt : i < s.size
  · have hii : (i : Int) < s.size := by omega
    have hi0 : (0 : Int) ≤ i := by omega
    have hn : nx s.data.toList i = s[i].toNat := by
      unfold nx
      rw [List.getElem?_eq_getElem (by rw [← Lib.size_eq]; exact hlt)]
      simp
      rfl
    have HN := Lib.hid hn
    clear hn
    go_enter Try.func47, Try.ntmps47
    go_wp2_with fail
    go_quiet (fail)
    go_wp2
    go_ret
    refine ⟨?_, HH.out, below_drewN _ _ _⟩
    rw [HN.out]
    show Ending.returned (Value.bool (((s[i].toNat : Nat) : Int) == (c : Int))) = _
    congr 2
    rw [Bool.eq_iff_iff]; simp; omega
  · obtain rfl : i = s.size := by omega
    have hn : nx s.data.toList s.size = 0 := by
      unfold nx
      rw [List.getElem?_eq_none (by rw [← Lib.size_eq]; exact Nat.le_refl _)]
      rfl
    have hii : decide ((s.size : Int) < s.size) = false := by simp
    have HN := Lib.hid hn
    clear hn
    go_enter Try.func47, Try.ntmps47
    go_wp2_with fail
    go_quiet (fail)
    go_wp2
    go_ret
    refine ⟨?_, HH.out, below_drewN _ _ _⟩
    rw [HN.out, decide_eq_false (by omega)]
    rfl
end Go.Proofs.Ytejdfpieblkapaa
