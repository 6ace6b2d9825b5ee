/- What Literal answers. -/
import Derived.Test.YtejdfpieblkapaaM29
import Derived.Test.YtejdfpieblkapaaM12
import Derived.OwnWalk
namespace Go.Proofs.Ytejdfpieblkapaa
open Go.RowKit Go.Shelf

theorem Try.info23 : (Try.prog.info? 23).map (fun i => (i.zero, i.size, i.bytes)) = some (some (.pointer none), 1, 8) := by kernel_rfl
def litS (L : List UInt8) : List Rx := L.map fun c => .set (btw c.toNat 1)

/-- Sets at addresses, of a byte each. -/
def SetsAt (w : World) (l : List UInt8) (bs : List Nat) : Prop := l.length = bs.length ∧ ∀ (i : Nat) (x : UInt8) (b : Nat), l[i]? = some x → bs[i]? = some b → NdAt w (.set (btw x.toNat 1)) b
theorem literal_long (s : ByteArray) (w : World) (h : 200 < s.size) : Calls Try.prog 18 #[.string s] w fun e w' => e = .returned (.tuple #[.pointer none, .int .i64 3]) ∧ w' = w := by
  have hi : (200 : Int) < s.size := by omega
  go_enter Try.func18, Try.ntmps18
  go_wp2_with fail
  refine bodyPost_ret (results_tmp2 rfl _ _ _) rfl ?_
  exact ⟨rfl, rfl⟩

set_option maxRecDepth 100000 in
set_option maxHeartbeats 2000000 in
theorem literal_any (s : ByteArray) (w : World) (h : s.size ≤ 200) : Calls Try.prog 18 #[.string s] w fun e w' => ∃ nb, e = .returned (.tuple #[ptr nb, .int .i64 0]) ∧ NdAt w' (nest .cat .empty (litS s.data.toList)) nb ∧ Below w.heap.size w w' := by
  have hi : ¬ (200 : Int) < s.size := by omega
  obtain ⟨i0, hi0, hz0, hz1, hz2⟩ := info_parts Try.info23
  have HI := Lib.hid hi0; have HZ0 := Lib.hid hz0; have HZ1 := Lib.hid hz1; have HZ2 := Lib.hid hz2
  clear hi0 hz0 hz1 hz2
  go_enter Try.func18, Try.ntmps18
  go_wp2_with (at_make; refine wpList_make_own _ rfl _ _ 47 rfl w.heap.size 23 i0 _ 1 Try.underlying47 HI.out HZ0.out HZ1.out .i64 .i64 (s.size : Int) s.size rfl rfl (by omega) (by rw [HZ2.out]; omega) (by unfold maxLen; omega) (by omega) ?_)
  intro w1 hown1 hg1
  have hb1 : Below w.heap.size w w1 := (Below.refl _ w).grown hg1 (Nat.le_refl _) (fun k e => by cases e)
  obtain ⟨cp, w2, hconv, hc1, hc2, hb2, C, fz, hC, hcell⟩ := conv_bytes s w1 (by omega)
  obtain ⟨L, hL⟩ : ∃ L, L = s.data.toList := ⟨_, rfl⟩
  have hlen : L.length = s.size := by rw [hL, ← Lib.size_eq]
  rw [← hL] at hcell
  have H0 := Lib.hid (And.intro (show w2.ownsRow w.heap.size 23 1 (.slice (some ⟨w.heap.size, 0, none⟩) 0 s.size) 0 [] from own_kb hown1 (Kb.of_below (fun _ => False) hb2) (fun _ _ h => h)) (And.intro hC (below_tr hb1 hb2 hb1.size)))
  have HCe := Lib.hid hcell; have HLL := Lib.hid hL; have HLN := Lib.hid hlen
  clear hown1 hg1 hb1 hb2 hC hcell hL hlen
  go_wp2_with fail
  go_loopw [4, 16] (fun v a wr => ∃ (k : Nat) (A : Option Addr) (c : Nat) (bs : List Nat), k ≤ s.size ∧ a = .int .i64 k ∧ v = .slice A k c ∧ Hid (wr.ownsRow w.heap.size 23 1 (.slice A k c) k (bs.map ptr) ∧ SetsAt wr (L.take k) bs ∧ wr.heap[w1.heap.size]? = some (.cells C 5 fz) ∧ Below w.heap.size w wr)) (fun _ a _ => s.size - (intOf a).toNat)
  case atStart => exact ⟨0, _, _, [], Nat.zero_le _, rfl, rfl, H0.out.1, ⟨rfl, fun i x b h => by simp at h⟩, H0.out.2.1, H0.out.2.2⟩
  case round =>
    obtain ⟨k, A, c, bs, hk, rfl, rfl, HQ⟩ := hrel
    obtain ⟨qo, qs, qb, qw⟩ := HQ.out
    obtain ⟨A', c', hf, hcap, hcap2⟩ := own_form qo
    injection hf with hf1 hf2 hf3
    subst hf1 hf3
    clear hf2
    by_cases hlt : k < s.size
    · obtain ⟨x, hx⟩ : ∃ x, L[k]? = some x := ⟨_, List.getElem?_eq_getElem (by rw [HLN.out]; exact hlt)⟩
      have hcc : wr.cell? ⟨w1.heap.size, k, none⟩ = some (.int .u8 x.toNat) := by
        rw [Lib.cell_of_heap qb]; exact HCe.out k x hx
      have hki : (k : Int) < s.size := by omega
      have hk0 : (0 : Int) ≤ k := by omega
      have HBT := Lib.hid (between_any x.toNat x.toNat wr x.toNat_lt x.toNat_lt)
      have htk : L.take (k + 1) = L.take k ++ [x] := by rw [List.take_add_one, hx]; rfl
      have HTK := Lib.hid htk
      have e1 : x.toNat + 1 - x.toNat = 1 := by omega
      rw [e1] at HBT
      clear qo qs qb qw hx htk e1
      go_wp2_with fail
      refine HBT.out.mono ?_
      rintro e w3 ⟨rfl, h3⟩
      have HST := Lib.hid (set_any (btw x.toNat 1) w3)
      have HB3 := Lib.hid h3
      clear h3
      go_wp2_with fail
      refine HST.out.mono ?_
      rintro e w4 ⟨nb, rfl, hn4, hb4⟩
      have hb34 := below_tr HB3.out hb4 HB3.out.size
      have qo4 : w4.ownsRow w.heap.size 23 1 (.slice A k c) k (bs.map ptr) := own_kb HQ.out.1 (Kb.of_below (fun _ => False) hb34) (fun _ _ h => h)
      have hz4 : w.heap.size ≤ w4.heap.size := Nat.le_trans HQ.out.2.2.2.size hb34.size
      have HB4 := Lib.hid hb34; have HN4 := Lib.hid hn4; have HO4 := Lib.hid qo4
      clear hn4 hb4 hb34 qo4
      go_wp2_with (at_builtin; refine wpList_append_lies _ rfl _ _ 47 rfl w.heap.size 23 i0 _ 1 8 Try.underlying47 HI.out HZ0.out HZ1.out HZ2.out rfl (by omega) (.slice A k c) k _ rfl (HO4.out.alloc _) ⟨w4.heap.size, 0, none⟩ 1 1 [ptr nb] rfl rfl (World.news_of_block (cs := #[ptr nb]) (t := 23) (fr := (0, 0)) (heap_alloc_new w4 _)) (by simp [Value.oneCell']) (by omega) (by unfold maxLen; omega) (by omega) (by simp; omega) (w4.heap.size + 1) (by simp) ?_)
      intro gg cap6 w6 hown6 hgrow6 hat6 hlt6
      have hg6 := grown_kb hgrow6
      have hk6 : ∀ (i : Nat) (cs : Array Value) (t : TypeId) (fz : Nat × Nat), t ≠ 23 → w4.heap[i]? = some (Obj.cells cs t fz) → w6.heap[i]? = some (Obj.cells cs t fz) := fun i cs t fz ht hi => (hg6.block i (lt_of_heap hi) (own_not HO4.out hi ht)).trans hi
      have hb6 : Below w.heap.size w w6 := (below_tr HQ.out.2.2.2 HB4.out HQ.out.2.2.2.size).trans (hg6.below hz4 (fun i hi => (own_ty HO4.out hi.symm).1))
      have hs6 : SetsAt w6 (L.take (k + 1)) (bs ++ [nb]) := by
        rw [HTK.out]
        refine ⟨by simp [HQ.out.2.1.1], fun i y b h1 h2 => ?_⟩
        have hl := HQ.out.2.1.1
        rcases Nat.lt_or_ge i bs.length with hi | hi
        · rw [List.getElem?_append_left (by omega)] at h1
          rw [List.getElem?_append_left hi] at h2
          have h3 : NdB wr (.set (btw y.toNat 1)) b (.slice none 0 0) := HQ.out.2.1.2 i y b h1 h2
          exact hk6 _ _ _ _ (by decide) ((HB4.out.block _ (lt_of_heap h3)).trans h3)
        · have hi2 : i = bs.length := by
            have := (List.getElem?_eq_some_iff.1 h2).1
            simp at this; omega
          subst hi2
          rw [← hl] at h1
          have e1 : x = y := by simpa using h1
          have e2 : nb = b := by simpa using h2
          subst e1; subst e2
          exact hk6 _ _ _ _ (by decide) HN4.out
      have hq6 := hk6 _ _ _ _ (by decide) ((HB4.out.block _ (lt_of_heap HQ.out.2.2.1)).trans HQ.out.2.2.1)
      have HF := Lib.hid (And.intro (show w6.ownsRow w.heap.size 23 1 _ (k + 1) ((bs ++ [nb]).map ptr) by rw [List.map_append]; exact hown6) (And.intro hs6 (And.intro hq6 hb6)))
      clear hown6 hgrow6 hat6 hlt6 hg6 hk6 hb6 hs6 hq6
      go_wp2
      go_roundw
      case rel => exact ⟨k + 1, _, _, bs ++ [nb], by omega, by go_num, rfl, HF.out⟩
      case measure => simp [intOf]; omega
    · obtain rfl : k = s.size := by omega
      have htk : L.take s.size = L := List.take_of_length_le (by rw [HLN.out]; exact Nat.le_refl _)
      rw [htk] at qs
      have hl := qs.1
      have hrow : RowAt wr A bs := by
        rcases qo.2 with ⟨hv, hn⟩ | ⟨g, cap, cur, hv, _, hh, _, _, _, h4⟩
        · exact .inl (List.length_eq_zero_iff.1 (by rw [← hl, HLN.out, hn]))
        · injection hv with e1 e2 e3
          refine .inr ⟨g, cur, _, e1, hh, fun i b hb => ?_⟩
          have : (bs.map ptr)[i]? = some (ptr b) := by rw [List.getElem?_map, hb]; rfl
          rw [← h4, List.getElem?_take_of_lt (by have := (List.getElem?_eq_some_iff.1 hb).1; rw [← hl, HLN.out] at this; omega)] at this
          simpa using this
      have hnds : NdsAt wr (litS L) bs := ⟨by simp [litS, hl], fun i r b h1 h2 => by
        unfold litS at h1
        rw [List.getElem?_map] at h1
        obtain ⟨y, hy, rfl⟩ := Option.map_eq_some_iff.1 h1
        exact qs.2 i y b hy h2⟩
      have HC := Lib.hid (cat_any c s.size A bs (litS L) wr hrow hnds (by rw [← hl, HLN.out]) hcap hcap2 (by omega) (fun r hr => by
        obtain ⟨y, _, rfl⟩ := List.mem_map.1 hr
        show 1 ≤ _; omega))
      have HW := Lib.hid qw
      clear qo qs qb qw hrow hnds hl htk
      go_wp2_with fail
      refine HC.out.mono ?_
      rintro e w5 ⟨nb, rfl, h2, h3⟩
      have HF := Lib.hid (And.intro h2 (below_tr HW.out h3 HW.out.size))
      clear h2 h3
      go_wp2_with fail
      refine bodyPost_ret (results_tmp2 rfl _ _ _) rfl ?_
      exact ⟨nb, rfl, by rw [← HLL.out]; exact HF.out.1, HF.out.2⟩
end Go.Proofs.Ytejdfpieblkapaa
