/- What Matches answers, of an expression of at most 16384 nodes. -/
import Derived.Test.YtejdfpieblkapaaM14
import Derived.Laws.IdiomStrings
namespace Go.Proofs.Ytejdfpieblkapaa
open Go.RowKit

theorem matches_nil (w : World) (s : ByteArray) : Calls Try.prog 10 #[.pointer none, .string s] w fun e w' => e = .returned (.bool false) ∧ w' = w := by
  go_enter Try.func10, Try.ntmps10
  go_wp2
  go_ret
  exact ⟨rfl, rfl⟩

theorem settled_below {r : Rx} {u : List UInt8} {τ root base R : Nat} {g0 : Gh} {w w' w2 : World} (h : Settled r u τ root base R g0 w w') (hb : Below w'.heap.size w' w2) (hB : base ≤ w'.heap.size) : Settled r u τ root base R g0 w w2 := by
  obtain ⟨bv, ev, sv, g, Sl, PS, hr, hs, hf, hst, os, hg0, hl⟩ := h
  exact ⟨bv, ev, sv, g, Sl, PS, rn_below hr hb, hs.below hb, hf.trans (Fr.of_below hB hb), hst, os, hg0, hl⟩
/-- '[]byte(s)': a new block with just these bytes. -/
theorem conv_bytes (s : ByteArray) (w : World) (hs : s.size ≤ 1099511627776) : ∃ cp w1, (convert 9 75 (.string s)).run Try.prog w = .ok (.slice (some ⟨w.heap.size, 0, none⟩) s.size cp) w1 ∧ s.size ≤ cp ∧ cp ≤ 9223372036854775807 ∧ Below w.heap.size w w1 ∧
    ∃ C fz, w1.heap[w.heap.size]? = some (.cells C 5 fz) ∧ ∀ (i : Nat) (b : UInt8), s.data.toList[i]? = some b → C[i]? = some (.int .u8 b.toNat) := by
  refine ⟨_, _, run_bytes_of_string w 9 75 5 s Try.underlying9 Try.underlying75 Try.underlying5, grownCap_ge _ _ _ _, ?_, (Below.refl _ w).drew.alloc (Nat.le_refl _) _, ?_⟩
  · have := grownCap_le_maxLen w s.size 0 5 (by unfold maxLen; omega); unfold maxLen at this; omega
  · refine ⟨bytesRow s (grownCap w s.size 0 5), ((bytesRow s (grownCap w s.size 0 5)).size, (bytesRow s (grownCap w s.size 0 5)).size + 1), ?_, ?_⟩
    · show (w.heap.push _)[w.heap.size]? = _
      simp
    · intro i b hb
      obtain ⟨hlt, hget⟩ := List.getElem?_eq_some_iff.1 hb
      have hlt' : i < s.data.size := by simpa using hlt
      have h1 := bytesRow_at s (grownCap w s.size 0 5) i hlt'
      simp at hget
      rw [hget] at h1
      exact h1

/-- What Matches lays at first: the whole's spot, a list of it, the run. -/
def mW (w : World) (nb : Nat) : World := ((w.alloc (.cells #[ptr nb, .pointer none, .pointer none, .pointer none, .int .i64 0, .int .i64 0, .slice none 0 0] 68)).alloc (.cells #[.pointer (some ⟨w.heap.size, 0, none⟩)] 64)).alloc (.cells #[.int .i64 1, .slice (some ⟨w.heap.size + 1, 0, none⟩) 1 1, .slice none 0 0, .slice none 0 0, .map none, .map none] 73)
def g1 (b : Nat) : Gh := ⟨fun p => if p = [] then some b else none, fun _ => 0, fun _ => 0⟩

theorem mW_at {w : World} {r : Rx} {nb : Nat} (hn : NdAt w r nb) : RnAt (mW w nb) w.heap.size (w.heap.size + 1 + 1) 1 (.slice (some ⟨w.heap.size + 1, 0, none⟩) 1 1) (.slice none 0 0) (.slice none 0 0) [w.heap.size] [] [] ∧ SpAt (mW w nb) r (g1 w.heap.size) w.heap.size ∧ Below w.heap.size w (mW w nb) := by
  have hb : Below w.heap.size w (mW w nb) := (((Below.refl _ w).alloc (Nat.le_refl _) _).alloc (by simp) _).alloc (by simp; omega) _
  have h0 : (mW w nb).heap[w.heap.size]? = some (.cells #[ptr nb, .pointer none, .pointer none, .pointer none, .int .i64 0, .int .i64 0, .slice none 0 0] 68 (0, 0)) := by
    unfold mW
    rw [Below.heap_alloc _ _ _ (by simp; omega), Below.heap_alloc _ _ _ (by simp)]
    exact heap_alloc_new w _
  have h1 : (mW w nb).heap[w.heap.size + 1]? = some (.cells #[.pointer (some ⟨w.heap.size, 0, none⟩)] 64 (0, 0)) := by
    unfold mW
    rw [Below.heap_alloc _ _ _ (by simp)]
    have := heap_alloc_new (w.alloc (.cells #[ptr nb, .pointer none, .pointer none, .pointer none, .int .i64 0, .int .i64 0, .slice none 0 0] 68)) (.cells #[.pointer (some ⟨w.heap.size, 0, none⟩)] 64)
    simpa using this
  have h2 : (mW w nb).heap[w.heap.size + 1 + 1]? = some (.cells #[.int .i64 1, .slice (some ⟨w.heap.size + 1, 0, none⟩) 1 1, .slice none 0 0, .slice none 0 0, .map none, .map none] 73 (0, 0)) := by
    unfold mW
    have := heap_alloc_new ((w.alloc (.cells #[ptr nb, .pointer none, .pointer none, .pointer none, .int .i64 0, .int .i64 0, .slice none 0 0] 68)).alloc (.cells #[.pointer (some ⟨w.heap.size, 0, none⟩)] 64)) (.cells #[.int .i64 1, .slice (some ⟨w.heap.size + 1, 0, none⟩) 1 1, .slice none 0 0, .slice none 0 0, .map none, .map none] 73)
    simpa using this
  refine ⟨⟨h2, ⟨rfl, .inr ⟨w.heap.size + 1, 1, _, rfl, by omega, h1, by simp, by unfold maxLen; omega, rfl, rfl⟩⟩, ⟨rfl, .inl ⟨rfl, rfl⟩⟩, ⟨rfl, .inl ⟨rfl, rfl⟩⟩, fun _ _ h => by simp [Value.ownBlock] at h, fun _ _ h => by simp [Value.ownBlock] at h, fun _ h => by simp [Value.ownBlock] at h⟩, ⟨by simp [g1], fun p b hp => ?_, fun k p b hp => by simp [g1] at hp, fun p q b hp hq => ?_, fun p _ => ⟨rfl, rfl⟩, fun p b b0 h0 hp => ?_⟩, hb⟩
  · have hp' : p = [] ∧ w.heap.size = b := by
      by_cases hp0 : p = []
      · simp [g1, hp0] at hp; exact ⟨hp0, hp⟩
      · simp [g1, hp0] at hp
    obtain ⟨rfl, rfl⟩ := hp'
    refine ⟨r, nb, rfl, hn.keep (KN.of_below hb), ?_⟩
    unfold SpB
    rw [h0]
    simp [g1, Gh.up, ptrO]
  · by_cases hp0 : p = []
    · by_cases hq0 : q = []
      · rw [hp0, hq0]
      · simp [g1, hq0] at hq
    · simp [g1, hp0] at hp
  · have a1 : w.heap.size = b0 := by simpa [g1] using h0
    by_cases hp0 : p = []
    · have a2 : w.heap.size = b := by simpa [g1, hp0] using hp
      omega
    · simp [g1, hp0] at hp

set_option maxRecDepth 100000 in
set_option maxHeartbeats 4000000 in
theorem matches_any (w : World) (r : Rx) (nb : Nat) (s : ByteArray) (hn : NdAt w r nb) (hsz : r.size ≤ 16384) (hs : s.size ≤ 800000) :
    Calls Try.prog 10 #[ptr nb, .string s] w fun e w' => (∃ b, e = .returned (.bool b) ∧ (b = true ↔ r.L s.data.toList)) ∧ Below w.heap.size w w' := by
  obtain ⟨L, hL⟩ : ∃ L, L = s.data.toList := ⟨_, rfl⟩
  have hlen : L.length = s.size := by rw [hL, ← Lib.size_eq]
  rw [← hL]
  have HLN := Lib.hid hlen; have HLL := Lib.hid hL
  clear hlen hL
  obtain ⟨A, n, hnb, _⟩ := hn.blk
  unfold NdB at hnb
  have hnl := lt_of_heap hnb
  obtain ⟨m1, m2, m3⟩ := mW_at hn
  have hnb3 := (m3.block nb hnl).trans hnb
  have c6 : (mW w nb).cell? ⟨nb, 6, none⟩ = some (.int .i64 r.size) := by rw [Lib.cell_of_heap hnb3]; rfl
  have hcb := cnt_le (g1 w.heap.size).bg 1 r.all
  have hce := cnt_le (g1 w.heap.size).en 1 r.all
  rw [Rx.all_length] at hcb hce
  have hsz3 : w.heap.size ≤ (mW w nb).heap.size := m3.size
  have HC := Lib.hid (settle_any r [] 1 w.heap.size w.heap.size (w.heap.size + 1 + 1) (g1 w.heap.size) (mW w nb) (1 + 0 + 4 * (cnt (g1 w.heap.size).bg 1 r.all + cnt (g1 w.heap.size).en 1 r.all)) ⟨_, _, _, g1 w.heap.size, [w.heap.size], [], [], [[]], [], [], m1, m2, Fr.refl _ _, St.first r, by simp [On, g1], rfl, rfl, fun _ _ h => h, rfl, by omega, by simp only [List.length_nil]; omega⟩ hsz3 (by omega) (Nat.le_refl _) (by omega) hsz)
  have hsz' : ¬ (16384 : Int) < r.size := by omega
  have HZ := Lib.hid hsz; have HM := Lib.hid m3
  clear hn hnb hsz hcb hce m1 m2 m3 hnb3 hsz3
  generalize hrs : r.size = rs at c6 hsz'
  clear hrs
  unfold mW at c6
  go_enter Try.func10, Try.ntmps10
  go_wp2_with fail
  refine HC.out.mono ?_
  rintro e w4 ⟨rfl, hset⟩
  obtain ⟨cp, w5, hconv, hc1, hc2, hb5, C, fz, hC, hcell⟩ := conv_bytes s w4 (by omega)
  have hset5 := settled_below hset hb5 (Nat.le_trans HM.out.size (by obtain ⟨_, _, _, _, _, _, _, _, hf, _⟩ := hset; exact hf.size))
  rw [← HLL.out] at hcell
  have H5 := Lib.hid hset5; have HCC := Lib.hid hC; have HCe := Lib.hid hcell
  clear hset5 hset hC hcell hb5 c6 hsz' HC
  go_wp2_with fail
  go_loopw [37] (fun i wr => ∃ k : Nat, k ≤ s.size ∧ i = .int .i64 k ∧ Hid (Settled r (L.take k).reverse (k + 1) w.heap.size w.heap.size (w.heap.size + 1 + 1) (g1 w.heap.size) (mW w nb) wr) ∧ Hid (wr.heap[w4.heap.size]? = some (.cells C 5 fz))) (fun i _ => s.size - (intOf i).toNat)
  case atStart => exact ⟨0, Nat.zero_le _, rfl, H5.out, HCC.out⟩
  case round =>
    obtain ⟨k, hk, rfl, HS, HK⟩ := hrel
    obtain ⟨bv, ev, sv, g, Sl, PS, hr, hs0, hf, hst, os, hg0, hsl⟩ := HS.out
    have hbw : w.heap.size ≤ wr.heap.size := Nat.le_trans HM.out.size hf.size
    by_cases hlt : k < s.size
    · obtain ⟨c, hc⟩ : ∃ c, L[k]? = some c := ⟨_, List.getElem?_eq_getElem (by rw [HLN.out]; exact hlt)⟩
      have hcc : wr.cell? ⟨w4.heap.size, k, none⟩ = some (.int .u8 c.toNat) := by
        rw [Lib.cell_of_heap HK.out]; exact HCe.out k c hc
      have r3 := rn_c3 hr
      obtain ⟨A3, c3, e3, _, _⟩ := own_form hr.so
      have hki : (k : Int) < s.size := by omega
      have hk0 : (0 : Int) ≤ k := by omega
      by_cases hs00 : Sl = []
      · subst hs00
        obtain rfl := on_nil os
        rw [e3] at r3
        have r3' : wr.cell? ⟨w.heap.size + 1 + 1, 3, none⟩ = some (.slice A3 0 c3) := r3
        have hno : ¬ r.L L := by
          have hd := hst.dead c (L.drop (k + 1))
          rw [List.reverse_reverse] at hd
          have : L = L.take k ++ c :: L.drop (k + 1) := by
            have h1 : L.drop k = c :: L.drop (k + 1) := by
              obtain ⟨hl, hg⟩ := List.getElem?_eq_some_iff.1 hc
              rw [← hg]; exact List.drop_eq_getElem_cons hl
            rw [← h1, List.take_append_drop]
          rw [this]; exact hd
        have HNO := Lib.hid hno; have HF := Lib.hid hf.below
        clear hno hr hs0 hf hst os hg0 hsl r3 hc
        go_wp2
        go_ret
        exact ⟨⟨false, rfl, by simp [HNO.out]⟩, HM.out.trans HF.out⟩
      · have hlen0 : Sl.length ≠ 0 := fun h => hs00 (List.length_eq_zero_iff.1 h)
        rw [e3] at r3
        obtain ⟨ns, hns⟩ : ∃ ns, ns = Sl.length := ⟨_, rfl⟩
        rw [← hns] at r3
        have hns0 : ((ns : Nat) : Int) ≠ 0 := by omega
        have hns1 : ns ≠ 0 := by omega
        have HC2 := Lib.hid (read_any r _ c (k + 1) w.heap.size w.heap.size (w.heap.size + 1 + 1) g wr bv ev sv Sl PS hr hs0 hst os hsl hbw (by omega) (Nat.le_refl _) (by omega) HZ.out)
        have htk : c :: (L.take k).reverse = (L.take (k + 1)).reverse := by
          rw [List.take_add_one, hc]; simp
        have HT := Lib.hid htk; have HF := Lib.hid hf; have HG := Lib.hid hg0
        clear hr hs0 hf hst os hg0 hsl hc htk hns e3 hlen0 hs00
        go_wp2_with fail
        refine HC2.out.mono ?_
        rintro e w6 ⟨rfl, bv', ev', sv', g', Sl', PS', q1, q2, q3, q4, q5, q6, q7⟩
        have HQ := Lib.hid (show Settled r (L.take (k + 1)).reverse (k + 1 + 1) w.heap.size w.heap.size (w.heap.size + 1 + 1) (g1 w.heap.size) (mW w nb) w6 from ⟨bv', ev', sv', g', Sl', PS', q1, q2, HF.out.trans q3, HT.out ▸ q4, q5, fun p x h => q6 p x (HG.out p x h), q7⟩)
        have HK6 := Lib.hid (q3.kx _ _ _ _ HK.out (by decide) (by decide) (by decide))
        clear q1 q2 q3 q4 q5 q6 q7
        go_wp2
        go_roundw
        case rel => exact ⟨k + 1, by omega, by go_num, HQ.out, HK6.out⟩
        case measure => simp [intOf]; omega
    · obtain rfl : k = s.size := by omega
      have htk : L.take s.size = L := List.take_of_length_le (by rw [HLN.out]; exact Nat.le_refl _)
      rw [htk] at hst
      obtain ⟨_, x5, _, _, hxl⟩ := sp_cells hs0 hs0.root
      have r0 := rn_c0 hr
      have hmm := hst.means
      have HMM := Lib.hid hmm; have HF := Lib.hid hf.below
      obtain ⟨en, hen⟩ : ∃ en, en = g.en [] := ⟨_, rfl⟩
      rw [← hen] at x5
      have HE := Lib.hid hen
      obtain ⟨τ1, hτ1⟩ : ∃ τ1, τ1 = s.size + 1 := ⟨_, rfl⟩
      rw [← hτ1] at r0
      have HT1 := Lib.hid hτ1
      clear hr hs0 hf hst os hg0 hsl hmm htk hen hτ1
      go_wp2_with fail
      go_quiet (fail)
      go_wp2
      go_ret
      refine ⟨⟨((en : Int) == (τ1 : Int)), rfl, ?_⟩, (HM.out.trans HF.out).trans (below_drewN _ _ nq)⟩
      rw [← HMM.out, ← HE.out, ← HT1.out, beq_iff_eq]
      omega
end Go.Proofs.Ytejdfpieblkapaa
