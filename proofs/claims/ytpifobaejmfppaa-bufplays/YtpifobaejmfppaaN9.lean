/- A buffer's text, and the calls that only look. -/
import Derived.Test.YtpifobaejmfppaaN8
namespace Go.Proofs.Ytpifobaejmfppaa
open Go.RowKit

/-- A buffer and its text. -/
structure TxAt (w : World) (base Bf : Nat) (p f : Value) (made : Int) (A : Option Addr) (n c : Nat) (L : List Pc) (T : List UInt8) : Prop where
  bf : BfAt w Bf p f made (.slice A n c) T.length
  own : w.ownsRow base 64 1 (.slice A n c) n (L.map Pc.val)
  ln : L.length = n
  pcs : ∀ q ∈ L, PcAt w q ∧ 0 < q.bs.length ∧ q.bs.length ≤ 1099511627776
  tx : pcText L = T
  mx : T.length ≤ 1099511627776

theorem TxAt.cut {w : World} {base Bf : Nat} {p f : Value} {made : Int} {A : Option Addr} {n c : Nat} {L : List Pc} {T : List UInt8} (h : TxAt w base Bf p f made A n c L T) :
    CutAt (w.alloc (.cells #[.slice A n c, .int .i64 0] 99)) w.heap.size L n 0 A c ∧ remC L 0 = T ∧ ∃ G, G < w.heap.size ∧ ∀ ad, A = some ad → ad.block = G := by
  have hal : ∀ i, i < w.heap.size → (w.alloc (.cells #[.slice A n c, .int .i64 0] 99)).heap[i]? = w.heap[i]? := fun i hi => Below.heap_alloc w _ i hi
  obtain ⟨hc1, hc2⟩ := own_cap h.own
  refine ⟨⟨heap_alloc_new _ _, h.ln, hc1, hc2, ?_, fun q hq => ⟨(h.pcs q hq).1.keep ?_, (h.pcs q hq).2⟩, fun q t e => (h.pcs q (by rw [e]; simp)).2.1⟩, ?_, ?_⟩
  · intro hne
    rcases h.own.2 with ⟨_, h0⟩ | ⟨g, cap, cur, hv, hbg, hg, hr⟩
    · have := h.ln
      exact absurd (List.eq_nil_of_length_eq_zero (by omega)) hne
    · have hA : A = some ⟨g, 0, none⟩ := by injection hv
      subst hA
      refine ⟨g, 0, cur, (0, 0), rfl, (hal g (lt_of_heap hg)).trans hg, fun i q hi => ?_⟩
      have hcc := h.own.cells (g := g) rfl
      have e0 := hcc i q.val (by rw [List.getElem?_map, hi]; rfl)
      rw [add_none, Lib.cell_of_heap hg] at e0
      rw [Nat.zero_add]; exact e0
  · obtain ⟨cur, fz, hg, _⟩ := (h.pcs q hq).1
    exact hal _ (lt_of_heap hg)
  · rw [← h.tx]
    cases L with
    | nil => rfl
    | cons x y => simp [remC, pcText]
  · rcases h.own.2 with ⟨hv, _⟩ | ⟨g, cap, cur, hv, hbg, hg, hr⟩
    · exact ⟨Bf, h.bf.lt, fun ad e => by injection hv with h1; rw [h1] at e; cases e⟩
    · have hA : A = some ⟨g, 0, none⟩ := by injection hv
      exact ⟨g, lt_of_heap hg, fun ad e => by rw [hA] at e; injection e with e; rw [← e]⟩

set_option maxRecDepth 100000 in
set_option maxHeartbeats 2000000 in
theorem text_any (base Bf : Nat) (p f : Value) (made : Int) (A : Option Addr) (n c : Nat) (L : List Pc) (T : List UInt8) (w : World) (h : TxAt w base Bf p f made A n c L T) :
    Calls Try.prog 33 #[.pointer (some ⟨Bf, 0, none⟩)] w fun e w' => e = .returned (.string ⟨T.toArray⟩) ∧ Below w.heap.size w w' := by
  obtain ⟨hcut, hrem, G, hG, hAG⟩ := h.cut
  have c3 := h.bf.c3
  have c4 := h.bf.c4
  have hBl := h.bf.lt
  have hmx := h.mx
  obtain ⟨z, hz⟩ : ∃ z, z = T.length := ⟨_, rfl⟩
  rw [← hz] at c4 hmx
  have HZ := Lib.hid hz
  have HCUT := Lib.hid hcut; have HREM := Lib.hid hrem; have HAG := Lib.hid hAG
  clear h hcut hrem hAG hz
  go_enter Try.func33, Try.ntmps33
  go_wp2_with fail
  refine (bgather_any w.heap.size G L n 0 A c T z _ HCUT.out HAG.out HREM.out (by rw [HZ.out]; exact Nat.le_refl _) hmx (by simp; omega) (by omega)).mono ?_
  rintro e w1 ⟨rfl, _, _, _, _, _, _, _, _, _, hk⟩
  have hb : Below w.heap.size w w1 := ((Below.refl _ w).alloc (Nat.le_refl _) _).trans (hk.below (by simp) (fun i h => by omega))
  have HT := Lib.hid (show T.take z = T by rw [HZ.out]; exact List.take_length)
  rw [HT.out]
  clear hk
  go_wp2
  go_ret
  exact ⟨rfl, hb⟩
end Go.Proofs.Ytpifobaejmfppaa
