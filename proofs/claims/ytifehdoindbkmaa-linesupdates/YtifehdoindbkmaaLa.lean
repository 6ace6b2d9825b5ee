/- Where lines begin in a text; the function that yields these places. -/
import Derived.Test.YtifehdoindbkmaaProg
import Derived.RangeFuncBox
import Derived.RangeFuncNested
import Derived.RangeFuncBound
import Derived.RangeFuncCalls
import Derived.RangeFuncLeaves
import Derived.Shelf.Abstract
import Derived.Shelf.RegionOpen
import Derived.WalkKit
import Derived.OwnWalkIn
import Derived.TacticsInMore
import Derived.LoopNIn
import Derived.LoopIn
import Derived.Maps.AppendAt
import Derived.Laws.IdiomStrings
import Derived.Lib.Strings
import Derived.Lib.Hide
import Derived.Lib.Builder
namespace Go.Proofs.Ytifehdoindbkmaa
open Go.RowKit Go.Shelf

attribute [local go_sem] Oper.semAt_some

/-- The places behind a byte 10, of the first k bytes. -/
def nls (l : List UInt8) (k : Nat) : List Int := (List.range k).filterMap fun (i : Nat) => if l[i]? = some 10 then some ((i : Int) + 1) else none
theorem nls_zero (l : List UInt8) : nls l 0 = [] := rfl
theorem nls_hit {l : List UInt8} {k : Nat} (h : l[k]? = some 10) : nls l (k + 1) = nls l k ++ [(k : Int) + 1] := by
  simp [nls, List.range_succ, List.filterMap_append, h]
theorem nls_miss {l : List UInt8} {k : Nat} (h : l[k]? ≠ some 10) : nls l (k + 1) = nls l k := by
  simp [nls, List.range_succ, List.filterMap_append, h]
theorem nls_pre (l : List UInt8) (k m : Nat) (h : k ≤ m) : nls l k <+: nls l m := by
  induction m with
  | zero => obtain rfl : k = 0 := by omega
            exact List.prefix_refl _
  | succ m ih =>
    by_cases e : k = m + 1
    · subst e; exact List.prefix_refl _
    · refine (ih (by omega)).trans ?_
      by_cases h10 : l[m]? = some 10
      · rw [nls_hit h10]; exact List.prefix_append _ _
      · rw [nls_miss h10]; exact List.prefix_refl _
theorem nls_len (l : List UInt8) (k : Nat) : (nls l k).length ≤ k := by
  have := List.length_filterMap_le (fun (i : Nat) => if l[i]? = some 10 then some ((i : Int) + 1) else none) (List.range k)
  simpa [nls] using this

/-- Rows of bytes stand as they stood. -/
def KeepB (A B : World) : Prop := ∀ (k : Nat) (c : Array Value) (fz : Nat × Nat), A.heap[k]? = some (.cells c 5 fz) → B.heap[k]? = some (.cells c 5 fz)
theorem KeepB.refl (A : World) : KeepB A A := fun _ _ _ h => h
theorem KeepB.trans {A B C : World} (h : KeepB A B) (h' : KeepB B C) : KeepB A C := fun k c fz e => h' k c fz (h k c fz e)
theorem KeepB.put (W : World) (l : Nat) (o o' : Obj) (ho : W.heap[l]? = some o) (hc : o.isCells = false) : KeepB W (W.putObj l o') := by
  intro k c fz h
  have hk : k ≠ l := by
    rintro rfl
    rw [ho] at h
    injection h with h
    subst h
    simp [Obj.isCells] at hc
  exact (World.putObj_heap_other hk).trans h
theorem KeepB.below {A B : World} (h : Below A.heap.size A B) : KeepB A B := fun k _ _ e => (h.block k (Array.getElem?_eq_some_iff.1 e).1).trans e

/-- '[]byte(s)': a new block with just these bytes. -/
theorem conv_bytes (s : ByteArray) (w : World) (hs : s.size ≤ 1099511627776) : ∃ cp w1, (convert 9 56 (.string s)).run Try.prog w = .ok (.slice (some ⟨w.heap.size, 0, none⟩) s.size cp) w1 ∧ s.size ≤ cp ∧ cp ≤ 9223372036854775807 ∧ Below w.heap.size w w1 ∧
    ∃ C fz, w1.heap[w.heap.size]? = some (.cells C 5 fz) ∧ ∀ (i : Nat) (b : UInt8), s.data.toList[i]? = some b → C[i]? = some (.int .u8 b.toNat) := by
  refine ⟨_, _, run_bytes_of_string w 9 56 5 s Try.underlying9 Try.underlying56 Try.underlying5, grownCap_ge _ _ _ _, ?_, (Below.refl _ w).drew.alloc (Nat.le_refl _) _, ?_⟩
  · have := grownCap_le_maxLen w s.size 0 5 (by unfold maxLen; omega); unfold maxLen at this; omega
  · refine ⟨bytesRow s (grownCap w s.size 0 5), ((bytesRow s (grownCap w s.size 0 5)).size, (bytesRow s (grownCap w s.size 0 5)).size + 1), ?_, ?_⟩
    · show (w.heap.push _)[w.heap.size]? = _
      simp
    · intro i b hb
      obtain ⟨hlt, hget⟩ := List.getElem?_eq_some_iff.1 hb
      have hlt' : i < s.data.size := by simpa using hlt
      have h1 := bytesRow_at s (grownCap w s.size 0 5) i hlt'
      simp at hget
      rw [hget] at h1
      exact h1

set_option maxRecDepth 100000 in
set_option maxHeartbeats 2000000 in
theorem nl1_in (F : Fence) (n : Nat) (hf : F.fn 24) (hro : F.round = none) (hn : 1 ≤ n) (l Bn : Nat) (s : ByteArray) (hs : s.size ≤ 1000000) (J Jx : List Int → World → Prop)
    (hY : ∀ pre x W, J pre W → pre.length < (nls s.data.toList s.size).length → YieldAt F (n - 1) Try.prog l #[.int .i64 x] W fun e W' =>
      (e = .returned (.bool true) ∧ J (pre ++ [x]) W' ∧ KeepB W W') ∨ (e = .returned (.bool false) ∧ Jx (pre ++ [x]) W'))
    (W : World) (hBn : W.cell? ⟨Bn, 0, none⟩ = some (.string s)) (hJ : AbidesFrom W.heap.size J) (h0 : J [] W) :
    CallsIn F n Try.prog 24 #[.func (.yield l) #[] #[], .pointer (some ⟨Bn, 0, none⟩)] W fun e W' => (∃ v, e = .returned v) ∧
      ((∃ ys, ys = nls s.data.toList s.size ∧ J ys W') ∨ (∃ pre, pre <+: nls s.data.toList s.size ∧ Jx pre W')) := by
  obtain ⟨cp, w1, hconv, hc1, hc2, hb, C, fz, hC, hcell⟩ := conv_bytes s W (by omega)
  have h0' : J [] w1 := hJ [] W w1 none h0 ⟨hb.os, hb.tape, hb.output, hb.size, fun i hi _ => hb.block i hi⟩ (fun r e => by cases e)
  obtain ⟨L, hL⟩ : ∃ L, L = s.data.toList := ⟨_, rfl⟩
  have hlen : L.length = s.size := by rw [hL, ← Lib.size_eq]
  rw [← hL] at hcell hY ⊢
  have HY := Lib.hid hY; have HC := Lib.hid hC; have HCe := Lib.hid hcell; have H0 := Lib.hid h0'; have HLN := Lib.hid hlen
  clear hY hC hcell h0' h0 hJ hL hlen
  refine callsIn_of_wp Try.func24 rfl hf ?_ hro
  simp only [Try.ntmps24, List.size_toArray, List.length_cons, List.length_nil, Nat.reduceAdd, Nat.reduceSub, Array.replicate_succ, Array.replicate_zero, List.push_toArray, List.append_toArray, List.nil_append, List.cons_append]
  gi_wp2
  gi_loopw [8] (fun i wr => ∃ k : Nat, k ≤ s.size ∧ i = .int .i64 k ∧ Hid (J (nls L k) wr) ∧ Hid (KeepB w1 wr)) (fun i _ => s.size - (intOf i).toNat)
  case atStart => exact ⟨0, Nat.zero_le _, rfl, H0.out, KeepB.refl _⟩
  case round =>
    obtain ⟨k, hk, rfl, HJs, HK⟩ := hrel
    by_cases hlt : k < s.size
    · obtain ⟨c, hc⟩ : ∃ c, L[k]? = some c := ⟨_, List.getElem?_eq_getElem (by rw [HLN.out]; exact hlt)⟩
      have hcc : wr.cell? ⟨W.heap.size, k, none⟩ = some (.int .u8 c.toNat) := by
        rw [Lib.cell_of_heap (HK.out _ _ _ HC.out)]; exact HCe.out k c hc
      have HCk := Lib.hid hc; clear hc
      by_cases h10 : c = 10
      · subst h10
        have hh := nls_hit HCk.out
        obtain ⟨fn, tmps, assign, body, hy, hR⟩ := HY.out (nls L k) ((k : Int) + 1) wr HJs.out (by
          have := (nls_pre L (k + 1) s.size (by omega)).length_le
          rw [hh, List.length_append, List.length_singleton] at this
          omega)
        have HH := Lib.hid hh; have HR := Lib.hid hR
        clear hh hR
        gi_wp2
        refine HR.out.mono ?_
        rintro e W3 (⟨rfl, hJ3, hk3⟩ | ⟨rfl, hJx3⟩)
        · have HJ3 := Lib.hid hJ3; have HK3 := Lib.hid hk3
          clear hJ3 hk3 hy
          gi_wp2
          go_roundw
          case rel => exact ⟨k + 1, by omega, by go_num, by show J _ _; rw [HH.out]; exact HJ3.out, HK.out.trans HK3.out⟩
          case measure => simp [intOf]; omega
        · have HJx3 := Lib.hid hJx3
          clear hJx3 hy
          gi_wp2
          refine bodyPost_ret (results_none rfl _ _ _) rfl ?_
          exact ⟨⟨_, rfl⟩, .inr ⟨_, by rw [← HH.out]; exact nls_pre _ _ _ (by omega), HJx3.out⟩⟩
      · have hne : ((c.toNat : Int) == 10) = false := by
          rw [beq_eq_false_iff_ne]
          intro e
          apply h10
          apply UInt8.toNat_inj.1
          have : c.toNat = 10 := by omega
          rw [this]; rfl
        have HM := Lib.hid (nls_miss (l := L) (k := k) (by rw [HCk.out]; intro e; injection e with e; exact h10 e))
        gi_wp2
        refine ⟨fun _ h => (by cases h), ?_⟩
        gi_wp2
        go_roundw
        case rel => exact ⟨k + 1, by omega, by go_num, by show J _ _; rw [HM.out]; exact HJs.out, HK.out⟩
        case measure => simp [intOf]; omega
    · obtain rfl : k = s.size := by omega
      gi_wp2
      go_end0
      exact ⟨⟨_, rfl⟩, .inl ⟨_, rfl, HJs.out⟩⟩
end Go.Proofs.Ytifehdoindbkmaa
